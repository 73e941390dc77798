/- Contract of the statement that each call tells what the document says. -/
import Derived.Test.YtdonclnjgopmbaaPT
import Derived.Test.YtdonclnjgopmbaaOI
namespace Go.Proofs.Ytdonclnjgopmbaa
open Go.RowKit
attribute [local go_sem ↓] Go.wp_at_zero Go.wp_at_succ
abbrev ddz : Array Value := #[.int .i64 0, .int .i64 0, .int .i64 0, .int .i64 0, .slice none 0 0]
structure DdC (w : World) (b : Nat) (x0 x1 x2 x3 : Int) (v : Value) : Prop where
  c0 : w.cell? ⟨b, 0, none⟩ = some (.int .i64 x0)
  c1 : w.cell? ⟨b, 1, none⟩ = some (.int .i64 x1)
  c2 : w.cell? ⟨b, 2, none⟩ = some (.int .i64 x2)
  c3 : w.cell? ⟨b, 3, none⟩ = some (.int .i64 x3)
  c4 : w.cell? ⟨b, 4, none⟩ = some v
  g0 : w.frozen? ⟨b, 0, none⟩ = false
  g1 : w.frozen? ⟨b, 1, none⟩ = false
  g2 : w.frozen? ⟨b, 2, none⟩ = false
  g3 : w.frozen? ⟨b, 3, none⟩ = false
  g4 : w.frozen? ⟨b, 4, none⟩ = false
theorem dd_cells {w : World} {b : Nat} {x0 x1 x2 x3 : Int} {v : Value} (h : w.heap[b]? = some (.cells #[.int .i64 x0, .int .i64 x1, .int .i64 x2, .int .i64 x3, v] 31 (0, 0))) : DdC w b x0 x1 x2 x3 v :=
  ⟨by rw [cell_of_row w b 0 _ 31 (0, 0) h]; rfl, by rw [cell_of_row w b 1 _ 31 (0, 0) h]; rfl, by rw [cell_of_row w b 2 _ 31 (0, 0) h]; rfl, by rw [cell_of_row w b 3 _ 31 (0, 0) h]; rfl, by rw [cell_of_row w b 4 _ 31 (0, 0) h]; rfl,
    frozen_of_row w b 0 _ 31 h, frozen_of_row w b 1 _ 31 h, frozen_of_row w b 2 _ 31 h, frozen_of_row w b 3 _ 31 h, frozen_of_row w b 4 _ 31 h⟩
/-- The names of each deed can be read. -/
def DdMore (w : World) (es : List Dd) : Prop := ∀ e ∈ es, ∃ xs, Ns w e.a e.n xs ∧ (∀ x ∈ xs, wfN x) ∧ e.n ≤ 9223372036854775807
/-- In a round: both tables, the pair that was copied, and the deed. -/
def Px (wB w : World) (tb rb wb rt gt gr xb : Nat) (ob : Obj) (n : Nat) (s : Nm → Sl) (m : Nm → List Int) (q : Nm → Bool) (G : Nat → Prop) (rs : List Rw) (ws : List Nm) : Prop :=
  ∃ F, F xb ∧ Ms wB w F tb rb wb n s m q G rt rs ws ∧ w.heap[xb]? = some ob ∧ ((gt = tb ∧ gr = rt) ∨ ∀ w', KpF F w w' → Fine w' gt gr)
section
variable {wB w w' : World} {F : Nat → Prop} {tb rb wb rt gt gr xb n n' k : Nat} {ob : Obj} {s s' : Nm → Sl} {m m' : Nm → List Int} {q q' : Nm → Bool} {G G' : Nat → Prop} {rs rs' : List Rw} {ws ws' : List Nm}
theorem px_of (h : Pl wB w tb rb wb rt k gt gr) {cs : Array Value} {fr : Nat × Nat} (hx : w.heap[xb]? = some (.cells cs 31 fr)) : ∃ n s m q G rs ws, Px wB w tb rb wb rt gt gr xb (.cells cs 31 fr) n s m q G rs ws ∧ Lk m q rs ws ∧ (n ≤ k ∧ rs.length ≤ k ∧ ws.length ≤ k ∧ ∀ y, (m y).length ≤ k) := by
  obtain ⟨F, n, s, m, q, G, rs, ws, h1, h2, h3, h4⟩ := h
  have hlt : xb < w.heap.size := (Array.getElem?_eq_some_iff.1 hx).1
  refine ⟨n, s, m, q, G, rs, ws, ⟨fun g => F g ∨ g = xb, .inr rfl, ⟨h1.tw, h1.bel, fun g hg => ?_, fun g hg => ?_⟩, hx, ?_⟩, h2, h3⟩
  · rcases hg with hg | rfl
    · exact h1.ap g hg
    · refine ⟨h1.tw.tab.rows.ne_cells hx, h1.tw.tab.want.ne_cells hx, fun e => ?_, fun x hxx e => ?_⟩
      · obtain ⟨ra, rc, wa, wc, k1, _⟩ := h1.tw.rf.ex
        rw [← e, hx] at k1; cases k1
      · obtain ⟨cu, k1⟩ := (h1.tw.tab.row x hxx).type e
        rw [hx] at k1; cases k1
  · rcases hg with hg | rfl
    · exact h1.flt g hg
    · exact hlt
  · rcases h4 with h4 | h4
    · exact .inl h4
    · exact .inr fun w' hw => h4 w' ⟨hw.1, fun g hg => hw.2 g (.inl hg)⟩
theorem px_step (hF : F xb) (hx : w.heap[xb]? = some ob) (hc : (gt = tb ∧ gr = rt) ∨ ∀ w', KpF F w w' → Fine w' gt gr) (h : Ms wB w' F tb rb wb n' s' m' q' G' rt rs' ws') (hk : KpF F w w') : Px wB w' tb rb wb rt gt gr xb ob n' s' m' q' G' rs' ws' := by
  refine ⟨F, hF, h, (hk.2 xb hF).trans hx, ?_⟩
  rcases hc with hc | hc
  · exact .inl hc
  · exact .inr fun u hu => hc u (hk.trans hu)
theorem Px.below (h : Px wB w tb rb wb rt gt gr xb ob n s m q G rs ws) (hb : Below w.heap.size w w') : Px wB w' tb rb wb rt gt gr xb ob n s m q G rs ws := by
  obtain ⟨F, hF, h1, h2, h3⟩ := h
  exact px_step hF h2 h3 (h1.below hb).1 (h1.below hb).2
theorem Px.pl (h : Px wB w tb rb wb rt gt gr xb ob n s m q G rs ws) (hl : Lk m q rs ws) (hk : n ≤ k ∧ rs.length ≤ k ∧ ws.length ≤ k ∧ ∀ y, (m y).length ≤ k) : Pl wB w tb rb wb rt k gt gr := by
  obtain ⟨F, hF, h1, h2, h3⟩ := h
  exact ⟨F, n, s, m, q, G, rs, ws, h1, hl, hk, h3⟩
theorem Px.bel (h : Px wB w tb rb wb rt gt gr xb ob n s m q G rs ws) : Below wB.heap.size wB w := by
  obtain ⟨F, hF, h1, h2, h3⟩ := h
  exact h1.bel
theorem Px.box (h : Px wB w tb rb wb rt gt gr xb ob n s m q G rs ws) : w.heap[xb]? = some ob := by
  obtain ⟨F, hF, h1, h2, h3⟩ := h
  exact h2
variable {x : Nm} {kk : Int} {m0 : Nm → List Int} {q0 : Nm → Bool}
theorem px11 (h : Px wB w tb rb wb rt gt gr xb ob n s m q G rs ws) (hx : wfN x) (hn : n ≤ 1000000) (hl : (m x).length ≤ 1000000) :
    Calls Try.prog 11 #[.pointer (some ⟨tb, 0, none⟩), .agg #[.int .i64 x.1, .int .i64 x.2], .int .i64 kk] w fun e w' => e = .returned (.bool (!hasI (m x) kk)) ∧ ∃ s', Px wB w' tb rb wb rt gt gr xb ob (n + 1) s' (askM m x kk) q G rs ws := by
  obtain ⟨F, hF, h1, h2, h3⟩ := h
  refine (ms11 x kk h1 hx hn hl).mono ?_
  rintro e w' ⟨rfl, s', k1, k2⟩
  exact ⟨rfl, s', px_step hF h2 h3 k1 k2⟩
theorem px12 (h : Px wB w tb rb wb rt gt gr xb ob n s m q G rs ws) (hk : Lk m0 q0 rs ws) (hx : wfN x) (hn : rs.length ≤ 1000000) (hl : (m0 x).length ≤ 1000000) :
    Calls Try.prog 12 #[.pointer (some ⟨rt, 0, none⟩), .agg #[.int .i64 x.1, .int .i64 x.2], .int .i64 kk] w fun e w' => e = .returned (.bool (!hasI (m0 x) kk)) ∧ ∃ G' rs', Px wB w' tb rb wb rt gt gr xb ob n s m q G' rs' ws ∧ Lk (askM m0 x kk) q0 rs' ws ∧ rs'.length ≤ rs.length + 1 := by
  obtain ⟨F, hF, h1, h2, h3⟩ := h
  refine (ms12 x kk h1 hk hx hn hl).mono ?_
  rintro e w' ⟨rfl, G', rs', k1, k2, k3, k4⟩
  exact ⟨rfl, G', rs', px_step hF h2 h3 k1 k4, k2, k3⟩
theorem px16 (h : Px wB w tb rb wb rt gt gr xb ob n s m q G rs ws) (hx : wfN x) (hn : n ≤ 1000000) :
    Calls Try.prog 16 #[.pointer (some ⟨tb, 0, none⟩), .agg #[.int .i64 x.1, .int .i64 x.2]] w fun e w' => e = .returned (.bool (!q x)) ∧ Px wB w' tb rb wb rt gt gr xb ob (n + 1) s m (setAt q x true) G rs ws := by
  obtain ⟨F, hF, h1, h2, h3⟩ := h
  refine (ms16 x h1 hx hn).mono ?_
  rintro e w' ⟨rfl, k1, k2⟩
  exact ⟨rfl, px_step hF h2 h3 k1 k2⟩
theorem px17 (h : Px wB w tb rb wb rt gt gr xb ob n s m q G rs ws) (hk : Lk m0 q0 rs ws) (hx : wfN x) (hn : ws.length ≤ 1000000) :
    Calls Try.prog 17 #[.pointer (some ⟨rt, 0, none⟩), .agg #[.int .i64 x.1, .int .i64 x.2]] w fun e w' => e = .returned (.bool (!q0 x)) ∧ ∃ G' ws', Px wB w' tb rb wb rt gt gr xb ob n s m q G' rs ws' ∧ Lk m0 (setAt q0 x true) rs ws' ∧ ws'.length ≤ ws.length + 1 := by
  obtain ⟨F, hF, h1, h2, h3⟩ := h
  refine (ms17 x h1 hk hx hn).mono ?_
  rintro e w' ⟨rfl, G', ws', k1, k2, k3, k4⟩
  exact ⟨rfl, G', ws', px_step hF h2 h3 k1 k4, k2, k3⟩
theorem px14 (h : Px wB w tb rb wb rt gt gr xb ob n s m q G rs ws) (hx : wfN x) :
    Calls Try.prog 14 #[.pointer (some ⟨tb, 0, none⟩), .agg #[.int .i64 x.1, .int .i64 x.2]] w fun e w' => ∃ a k c, e = .returned (.slice a k c) ∧ In w' a k (m x) ∧ (∀ g, blk a = some g → g < w'.heap.size ∧ g ≠ rt) ∧ ∃ s', Px wB w' tb rb wb rt gt gr xb ob n s' (setAt m x []) q G rs ws := by
  obtain ⟨F, hF, h1, h2, h3⟩ := h
  refine (ms14 x h1 hx).mono ?_
  rintro e w' ⟨a, k, c, rfl, k1, k2, s', k3, k4⟩
  exact ⟨a, k, c, rfl, k1, k2, s', px_step hF h2 h3 k3 k4⟩
theorem px15 (h : Px wB w tb rb wb rt gt gr xb ob n s m q G rs ws) (hk : Lk m0 q0 rs ws) (hx : wfN x) (hn : rs.length ≤ 1000000) :
    Calls Try.prog 15 #[.pointer (some ⟨rt, 0, none⟩), .agg #[.int .i64 x.1, .int .i64 x.2]] w fun e w' => ∃ a k c, e = .returned (.slice a k c) ∧ In w' a k (m0 x) ∧ (∀ g, g < w.heap.size → g ≠ rt → w'.heap[g]? = w.heap[g]?) ∧ ∃ G' rs', Px wB w' tb rb wb rt gt gr xb ob n s m q G' rs' ws ∧ Lk (setAt m0 x []) q0 rs' ws ∧ rs'.length ≤ rs.length := by
  obtain ⟨F, hF, h1, h2, h3⟩ := h
  refine (ms15 x h1 hk hx hn).mono ?_
  rintro e w' ⟨a, k, c, rfl, k1, k2, G', rs', k3, k4, k5, k6⟩
  exact ⟨a, k, c, rfl, k1, k2, G', rs', px_step hF h2 h3 k3 k6, k4, k5⟩
variable {a : Option Addr} {c : Nat} {xs : List Nm}
theorem px18 (h : Px wB w tb rb wb rt gt gr xb ob n s m q G rs ws) (hx : Ns w a k xs) (hwf : ∀ x ∈ xs, wfN x) (hk : k ≤ 9223372036854775807) (hfree : k = 0 ∨ ∀ g, blk a = some g → g < wB.heap.size) :
    Calls Try.prog 18 #[.pointer (some ⟨tb, 0, none⟩), .slice a k c] w fun e w' => e = .returned (.tuple #[]) ∧ Px wB w' tb rb wb rt gt gr xb ob n s m (gotQ q xs) G rs ws := by
  obtain ⟨F, hF, h1, h2, h3⟩ := h
  refine (ms18 a k c xs h1 hx hwf hk hfree).mono ?_
  rintro e w' ⟨rfl, k1, k2⟩
  exact ⟨rfl, px_step hF h2 h3 k1 k2⟩
theorem px19 (h : Px wB w tb rb wb rt gt gr xb ob n s m q G rs ws) (hk : Lk m0 q0 rs ws) (hx : Ns w a k xs) (hkn : k ≤ 9223372036854775807) (hn : ws.length ≤ 1000000) :
    Calls Try.prog 19 #[.pointer (some ⟨rt, 0, none⟩), .slice a k c] w fun e w' => e = .returned (.tuple #[]) ∧ ∃ G' ws', Px wB w' tb rb wb rt gt gr xb ob n s m q G' rs ws' ∧ Lk m0 (gotQ q0 xs) rs ws' ∧ ws'.length ≤ ws.length := by
  obtain ⟨F, hF, h1, h2, h3⟩ := h
  refine (ms19 a k c xs h1 hk hx hkn hn).mono ?_
  rintro e w' ⟨rfl, G', ws', k1, k2, k3, k4⟩
  exact ⟨rfl, G', ws', px_step hF h2 h3 k1 k4, k2, k3⟩
end
theorem setAt_len {m : Nm → List Int} {x : Nm} {b : Nat} (h : ∀ y, (m y).length ≤ b) : ∀ y, (setAt m x [] y).length ≤ b + 1 := fun y => by
  have hy := h y
  by_cases e : y = x
  · subst e; rw [setAt_same]; simp
  · rw [setAt_other _ _ e]; omega
set_option maxRecDepth 100000 in
set_option maxHeartbeats 32000000 in
theorem o3 (a : Option Addr) (n c : Nat) (es : List Dd) (w : World) (hA : DdRow w a n es) (hM : DdMore w es) (hn : n ≤ 9223372036854775807) :
    Calls Try.prog 3 #[.slice a n c] w fun e w' => e = .returned (.bool true) ∧ Below w.heap.size w w' := by
  have HV : Hid (DdRow w a n es ∧ DdMore w es) := ⟨hA, hM⟩
  have H7 : Calls Try.prog 7 #[] w fun e w' => ∃ tb rb wb, e = .returned (.pointer (some ⟨tb, 0, none⟩)) ∧ Hid (TbAt w' w.heap.size tb rb wb 0 (fun _ => ⟨none, 0, 0⟩) (fun _ => []) (fun _ => false) ∧ Below w.heap.size w w') := by
    refine (o7 w).mono ?_
    rintro e w' ⟨rfl, h1, h2⟩
    exact ⟨_, _, _, rfl, h1, h2⟩
  clear hA hM
  go_enter Try.func3, Try.ntmps3
  go_wp2_with fail
  refine H7.mono ?_
  rintro e w1 ⟨tb, rb, wb, rfl, HI0⟩
  clear H7
  have H8 : Calls Try.prog 8 #[] w1 fun e w' => ∃ rt, e = .returned (.pointer (some ⟨rt, 0, none⟩)) ∧ Hid (Pl w w' tb rb wb rt 0 tb rt) := by
    refine (o8 w1).mono ?_
    rintro e w' ⟨rfl, h1, h2⟩
    obtain ⟨t1, t2⟩ := HI0.out
    refine ⟨_, rfl, (fun _ => False), 0, _, _, _, _, [], [], ⟨⟨t1.below h2, h1, fun g hg => hg.elim, t2.size⟩, t2.trans (h2.mono t2.size), fun g hg => hg.elim, fun g hg => hg.elim⟩, ⟨List.Pairwise.nil, List.Pairwise.nil, fun x => by simp, fun x _ => rfl, fun x => by simp⟩, ⟨by omega, by simp, by simp, fun y => by simp⟩, .inl ⟨rfl, rfl⟩⟩
  go_wp2_with fail
  refine H8.mono ?_
  rintro e w2 ⟨rt, rfl, HT0⟩
  clear H8 HI0
  go_wp2_with fail
  go_loopw [5, 6, 7, 8] (fun gv sv i _ wr => ∃ k gt gr : Nat, k ≤ n ∧ k ≤ 100 ∧ i = .int .i64 k ∧ gv = .pointer (some ⟨gt, 0, none⟩) ∧ sv = .pointer (some ⟨gr, 0, none⟩) ∧ Hid (Pl w wr tb rb wb rt k gt gr)) (fun _ _ i _ _ => n - (intOf i).toNat)
  case atStart => exact ⟨0, tb, rt, by omega, by omega, rfl, rfl, rfl, HT0⟩
  case round =>
    clear HT0
    obtain ⟨k, gt, gr, hk, hk1, rfl, rfl, rfl, HK⟩ := hrel
    by_cases hlt : k < n ∧ k < 100
    · obtain ⟨hlt, hlt2⟩ := hlt
      have hltI : (k : Int) < (n : Int) := by omega
      have hltJ : (k : Int) < 100 := by omega
      have hk0 : (0 : Int) ≤ (k : Int) := by omega
      obtain ⟨b, o, d, rfl, hdk, hdw, hcl⟩ := HV.out.1.at k hlt
      obtain ⟨p0, p1, p2, p3, p4⟩ := hcl wr HK.out.bel
      have hmore := HV.out.2 d (List.mem_of_getElem? hdk)
      obtain ⟨kd, ⟨x1, x2⟩, nd, da, dn, dc⟩ := d
      simp only at p0 p1 p2 p3 p4 hdw hmore
      have HX : Hid (wfN (x1, x2) ∧ ∃ xs, Ns w da dn xs ∧ (∀ x ∈ xs, wfN x) ∧ dn ≤ 9223372036854775807) := ⟨hdw, hmore⟩
      clear hdk hcl hdw hmore
      obtain ⟨W2, hW2⟩ : ∃ W2, wr.alloc (.cells ddz 31) = W2 := ⟨_, rfl⟩
      obtain ⟨xb, hxb⟩ : ∃ xb, wr.heap.size = xb := ⟨_, rfl⟩
      have hc : W2.heap[xb]? = some (.cells ddz 31 (0, 0)) := by rw [← hW2, ← hxb]; exact heap_alloc_new wr _
      obtain ⟨c0, c1, c2, c3, c4, g0, g1, g2, g3, g4⟩ := dd_cells hc
      obtain ⟨V, hV⟩ : ∃ V, ((((W2.setCell ⟨xb, 0, none⟩ (.int .i64 kd)).setCell ⟨xb, 1, none⟩ (.int .i64 x1)).setCell ⟨xb, 2, none⟩ (.int .i64 x2)).setCell ⟨xb, 3, none⟩ (.int .i64 nd)).setCell ⟨xb, 4, none⟩ (.slice da dn dc) = V := ⟨_, rfl⟩
      have HM : Hid (Pl w V tb rb wb rt k gt gr ∧ V.heap[xb]? = some (.cells #[.int .i64 kd, .int .i64 x1, .int .i64 x2, .int .i64 nd, .slice da dn dc] 31 (0, 0))) := by
        have hxw : wr.heap.size ≤ xb := by omega
        have bb : Below wr.heap.size wr V := by
          rw [← hV]
          have b1 : Below wr.heap.size wr W2 := by rw [← hW2]; exact (Below.refl _ _).alloc (Nat.le_refl _) _
          exact ((((b1.setCell (p := ⟨xb, 0, none⟩) hxw _).setCell (p := ⟨xb, 1, none⟩) hxw _).setCell (p := ⟨xb, 2, none⟩) hxw _).setCell (p := ⟨xb, 3, none⟩) hxw _).setCell (p := ⟨xb, 4, none⟩) hxw _
        refine ⟨HK.out.below bb, ?_⟩
        rw [← hV]
        have e1 := heap_setCell_same W2 xb 0 _ 31 (.int .i64 kd) hc
        have e2 := heap_setCell_same _ xb 1 _ 31 (.int .i64 x1) e1
        have e3 := heap_setCell_same _ xb 2 _ 31 (.int .i64 x2) e2
        have e4 := heap_setCell_same _ xb 3 _ 31 (.int .i64 nd) e3
        exact heap_setCell_same _ xb 4 _ 31 (.slice da dn dc) e4
      clear hc HK
      by_cases hmid : (n : Int) / 2 = (k : Int)
      · obtain ⟨h0, h1, h2, h3, h4, _, _, _, _, _⟩ := dd_cells HM.out.2
        have K9 : Calls Try.prog 9 #[.pointer (some ⟨tb, 0, none⟩)] V fun e w' => ∃ z, e = .returned z ∧ Hid (∃ F n s m q G rs ws, Ms w V F tb rb wb n s m q G rt rs ws ∧ Lk m q rs ws ∧ (n ≤ k ∧ rs.length ≤ k ∧ ws.length ≤ k ∧ ∀ y, (m y).length ≤ k) ∧ ForkP V n m q z w' ∧ RfAt w' G rt rs ws) := by
          obtain ⟨F, nn, s, m, q, G, rs, ws, m1, m2, m3, m4⟩ := HM.out.1
          refine (o9 _ tb rb wb nn s m q V m1.tw.tab (by omega) (fun y => by have := m3.2.2.2 y; omega)).mono ?_
          rintro e w' ⟨z, rfl, hz⟩
          have hb : Below V.heap.size V w' := by obtain ⟨_, _, _, _, _, _, _, _, _, h⟩ := hz; exact h
          exact ⟨z, rfl, F, nn, s, m, q, G, rs, ws, m1, m2, m3, hz, m1.tw.rf.below hb⟩
        have K10 : Hid (∀ u z, Hid (∃ F n s m q G rs ws, Ms w V F tb rb wb n s m q G rt rs ws ∧ Lk m q rs ws ∧ (n ≤ k ∧ rs.length ≤ k ∧ ws.length ≤ k ∧ ∀ y, (m y).length ≤ k) ∧ ForkP V n m q z u ∧ RfAt u G rt rs ws) → Calls Try.prog 10 #[.pointer (some ⟨rt, 0, none⟩)] u fun e w' => ∃ gt2 gr2, e = .returned (.pointer (some ⟨gr2, 0, none⟩)) ∧ Hid (z = .pointer (some ⟨gt2, 0, none⟩) ∧ Pl w w' tb rb wb rt k gt2 gr2 ∧ w'.heap[xb]? = some (.cells #[.int .i64 kd, .int .i64 x1, .int .i64 x2, .int .i64 nd, .slice da dn dc] 31 (0, 0)))) := fun u z hu => by
          obtain ⟨F, nn, s, m, q, G, rs, ws, m1, m2, m3, m4, m5⟩ := hu.out
          refine (o10 G rt rs ws u m5 (by omega) (by omega)).mono ?_
          rintro e w' ⟨z2, rfl, hz⟩
          have hb1 : Below V.heap.size V u := by obtain ⟨_, _, _, _, _, _, _, _, _, h⟩ := m4; exact h
          have hb2 : Below u.heap.size u w' := by obtain ⟨_, _, _, _, h⟩ := hz; exact h
          obtain ⟨gt2, gr2, e1, rfl, e3⟩ := pl_fork (by omega) m1 m2 m3 m4 hz
          have hlt : xb < V.heap.size := (Array.getElem?_eq_some_iff.1 HM.out.2).1
          exact ⟨gt2, gr2, rfl, e1, e3, (hb2.block xb (Nat.lt_of_lt_of_le hlt hb1.size)).trans ((hb1.block xb hlt).trans HM.out.2)⟩
        go_wp2_with fail
        refine K9.mono ?_
        rintro e w3 ⟨z, rfl, H3⟩
        clear K9
        go_wp2_with fail
        refine (K10.out _ _ H3).mono ?_
        rintro e w4 ⟨gt2, gr2, rfl, H4⟩
        have hz := H4.out.1
        subst hz
        have HM2 : Hid (Pl w w4 tb rb wb rt k gt2 gr2 ∧ w4.heap[xb]? = some (.cells #[.int .i64 kd, .int .i64 x1, .int .i64 x2, .int .i64 nd, .slice da dn dc] 31 (0, 0))) := H4.out.2
        clear K10 H3 H4 HM h0 h1 h2 h3 h4 hV hW2 hxb c0 c1 c2 c3 c4 g0 g1 g2 g3 g4 p0 p1 p2 p3 p4
        by_cases kd0 : kd = 0
        · subst kd0
          obtain ⟨n1, s1, m1, q1, G1, rs1, ws1, HP⟩ : ∃ n1 s1 m1 q1 G1 rs1 ws1, Hid (Px w w4 tb rb wb rt gt2 gr2 xb (.cells #[.int .i64 0, .int .i64 x1, .int .i64 x2, .int .i64 nd, .slice da dn dc] 31 (0, 0)) n1 s1 m1 q1 G1 rs1 ws1 ∧ Lk m1 q1 rs1 ws1 ∧ (n1 ≤ k ∧ rs1.length ≤ k ∧ ws1.length ≤ k ∧ ∀ y, (m1 y).length ≤ k)) := by
            obtain ⟨n1, s1, m1, q1, G1, rs1, ws1, h⟩ := px_of HM2.out.1 HM2.out.2
            exact ⟨n1, s1, m1, q1, G1, rs1, ws1, h⟩
          obtain ⟨h0, h1, h2, h3, h4, _, _, _, _, _⟩ := dd_cells HM2.out.2
          obtain ⟨r, hr⟩ : ∃ r, (!hasI (m1 (x1, x2)) nd) = r := ⟨_, rfl⟩
          have K11 : Hid (∀ u, Below w4.heap.size w4 u → Calls Try.prog 11 #[.pointer (some ⟨tb, 0, none⟩), .agg #[.int .i64 x1, .int .i64 x2], .int .i64 nd] u fun e w' => e = .returned (.bool r) ∧ Hid (∃ s', Px w w' tb rb wb rt gt2 gr2 xb (.cells #[.int .i64 0, .int .i64 x1, .int .i64 x2, .int .i64 nd, .slice da dn dc] 31 (0, 0)) (n1 + 1) s' (askM m1 (x1, x2) nd) q1 G1 rs1 ws1)) := fun u hu => by
            obtain ⟨a1, a2, a3⟩ := HP.out
            rw [← hr]
            exact px11 (a1.below hu) HX.out.1 (by omega) (by have := a3.2.2.2 (x1, x2); omega)
          have K12 : Hid (∀ u, Hid (∃ s', Px w u tb rb wb rt gt2 gr2 xb (.cells #[.int .i64 0, .int .i64 x1, .int .i64 x2, .int .i64 nd, .slice da dn dc] 31 (0, 0)) (n1 + 1) s' (askM m1 (x1, x2) nd) q1 G1 rs1 ws1) → Calls Try.prog 12 #[.pointer (some ⟨rt, 0, none⟩), .agg #[.int .i64 x1, .int .i64 x2], .int .i64 nd] u fun e w' => e = .returned (.bool r) ∧ Hid (Pl w w' tb rb wb rt (k + 1) gt2 gr2 ∧ w'.heap[xb]? = some (.cells #[.int .i64 0, .int .i64 x1, .int .i64 x2, .int .i64 nd, .slice da dn dc] 31 (0, 0)))) := fun u hu => by
            obtain ⟨a1, a2, a3, a4, a5, a6⟩ := HP.out
            obtain ⟨s', b1⟩ := hu.out
            refine (px12 b1 a2 HX.out.1 (by omega) (by have := a6 (x1, x2); omega)).mono ?_
            rintro e w' ⟨rfl, G', rs', b2, b3, b4⟩
            exact ⟨by rw [← hr], b2.pl b3 ⟨by omega, by omega, by omega, askM_len a6⟩, b2.box⟩
          clear HP hr
          go_wp2_with fail
          refine wp_region_noPanic ?_
          refine wp_region_held_drew (S := fun u => u.cell? ⟨xb, 1, none⟩ = some (.int .i64 x1) ∧ u.cell? ⟨xb, 2, none⟩ = some (.int .i64 x2) ∧ u.cell? ⟨xb, 3, none⟩ = some (.int .i64 nd)) (by kernel_rfl) (⟨h1, h2, h3⟩) (fun hHeld => ?_)
          (refine wpAnyH_take (i := 0) (v := ?_) (by simp only [List.getElem?_toArray, List.getElem?_cons_zero]; rfl) (by kernel_rfl) (by kernel_rfl) (by kernel_rfl) (fun _ _ _ h => h) (Or.inl ⟨by rfl, ?_⟩) (by assumption) ?_; rotate_left; (· (intro w hSw; (try dsimp only at hSw); go_simp <;> with_reducible rfl)); try simp only [Act.put, List.setIfInBounds_toArray, List.set_cons_zero, List.set_cons_succ])
          (refine wpAnyH_take (i := 1) (v := ?_) (by simp only [List.getElem?_toArray, List.getElem?_cons_zero, List.getElem?_cons_succ]; rfl) (by kernel_rfl) (by kernel_rfl) (by kernel_rfl) (fun _ _ _ h => h) (Or.inl ⟨by rfl, ?_⟩) (by assumption) ?_; rotate_left; (· (intro w hSw; (try dsimp only at hSw); go_simp <;> with_reducible rfl)); try simp only [Act.put, List.setIfInBounds_toArray, List.set_cons_zero, List.set_cons_succ])
          (refine wpAnyH_take (i := 2) (v := ?_) (by simp only [List.getElem?_toArray, List.getElem?_cons_zero, List.getElem?_cons_succ]; rfl) (by kernel_rfl) (by kernel_rfl) (by kernel_rfl) (fun _ _ _ h => h) (Or.inl ⟨by rfl, ?_⟩) (by assumption) ?_; rotate_left; (· (intro w hSw; (try dsimp only at hSw); go_simp <;> with_reducible rfl)); try simp only [Act.put, List.setIfInBounds_toArray, List.set_cons_zero, List.set_cons_succ])
          (refine wpAnyH_take (i := 3) (v := ?_) (by simp only [List.getElem?_toArray, List.getElem?_cons_zero, List.getElem?_cons_succ]; rfl) (by kernel_rfl) (by kernel_rfl) (by kernel_rfl) (fun _ _ _ h => h) (Or.inl ⟨by rfl, ?_⟩) (by assumption) ?_; rotate_left; (· (intro w hSw; (try dsimp only at hSw); go_simp <;> with_reducible rfl)); try simp only [Act.put, List.setIfInBounds_toArray, List.set_cons_zero, List.set_cons_succ])
          (refine wpAnyH_take (i := 4) (v := ?_) (by simp only [List.getElem?_toArray, List.getElem?_cons_zero, List.getElem?_cons_succ]; rfl) (by kernel_rfl) (by kernel_rfl) (by kernel_rfl) (fun _ _ _ h => h) (Or.inl ⟨by rfl, ?_⟩) (by assumption) ?_; rotate_left; (· (intro w hSw; (try dsimp only at hSw); go_simp <;> with_reducible rfl)); try simp only [Act.put, List.setIfInBounds_toArray, List.set_cons_zero, List.set_cons_succ])
          (refine wpAnyH_take (i := 6) (v := ?_) (by simp only [List.getElem?_toArray, List.getElem?_cons_zero, List.getElem?_cons_succ]; rfl) (by kernel_rfl) (by kernel_rfl) (by kernel_rfl) (fun _ _ _ h => h) (Or.inl ⟨by rfl, ?_⟩) (by assumption) ?_; rotate_left; (· (intro w hSw; (try dsimp only at hSw); go_simp <;> with_reducible rfl)); try simp only [Act.put, List.setIfInBounds_toArray, List.set_cons_zero, List.set_cons_succ])
          (refine wpAnyH_take (i := 7) (v := ?_) (by simp only [List.getElem?_toArray, List.getElem?_cons_zero, List.getElem?_cons_succ]; rfl) (by kernel_rfl) (by kernel_rfl) (by kernel_rfl) (fun _ _ _ h => h) (Or.inl ⟨by rfl, ?_⟩) (by assumption) ?_; rotate_left; (· (intro w hSw; (try dsimp only at hSw); go_simp <;> with_reducible rfl)); try simp only [Act.put, List.setIfInBounds_toArray, List.set_cons_zero, List.set_cons_succ])
          (refine wpAnyH_take (i := 8) (v := ?_) (by simp only [List.getElem?_toArray, List.getElem?_cons_zero, List.getElem?_cons_succ]; rfl) (by kernel_rfl) (by kernel_rfl) (by kernel_rfl) (fun _ _ _ h => h) (Or.inl ⟨by rfl, ?_⟩) (by assumption) ?_; rotate_left; (· (intro w hSw; (try dsimp only at hSw); go_simp <;> with_reducible rfl)); try simp only [Act.put, List.setIfInBounds_toArray, List.set_cons_zero, List.set_cons_succ])
          (refine wpAnyH_take (i := 9) (v := ?_) (by simp only [List.getElem?_toArray, List.getElem?_cons_zero, List.getElem?_cons_succ]; rfl) (by kernel_rfl) (by kernel_rfl) (by kernel_rfl) (fun _ _ _ h => h) (Or.inl ⟨by rfl, ?_⟩) (by assumption) ?_; rotate_left; (· (intro w hSw; (try dsimp only at hSw); go_simp <;> with_reducible rfl)); try simp only [Act.put, List.setIfInBounds_toArray, List.set_cons_zero, List.set_cons_succ])
          (refine wpAnyH_take (i := 10) (v := ?_) (by simp only [List.getElem?_toArray, List.getElem?_cons_zero, List.getElem?_cons_succ]; rfl) (by kernel_rfl) (by kernel_rfl) (by kernel_rfl) (fun _ _ _ h => h) (Or.inl ⟨by rfl, ?_⟩) (by assumption) ?_; rotate_left; (· (intro w hSw; (try dsimp only at hSw); go_simp <;> with_reducible rfl)); try simp only [Act.put, List.setIfInBounds_toArray, List.set_cons_zero, List.set_cons_succ])
          refine wpAnyH_ready (rs := [5]) (by kernel_rfl) (by simp) ?_
          refine AllReadyH.cons (by simp only [List.getElem?_toArray, List.getElem?_cons_zero, List.getElem?_cons_succ]; rfl) (fun K hK => ?_) AllReadyH.nil
          go_simp
          go_at_call 11
          refine (K11.out _ (by first | exact Below.refl _ _ | exact (Below.refl _ _).drew | exact below_dN (Below.refl _ _) _)).mono ?_
          rintro e w5 ⟨rfl, H5⟩
          refine hK.out _ _ ?_ (fun hHeld => ?_)
          · exact (by obtain ⟨_, h⟩ := H5.out; exact ⟨(dd_cells h.box).c1, (dd_cells h.box).c2, (dd_cells h.box).c3⟩)
          clear hK K
          try simp only [Act.put, List.setIfInBounds_toArray, List.set_cons_zero, List.set_cons_succ]
          refine wpAnyH_ready (rs := [11]) (by kernel_rfl) (by simp) ?_
          refine AllReadyH.cons (by simp only [List.getElem?_toArray, List.getElem?_cons_zero, List.getElem?_cons_succ]; rfl) (fun K hK => ?_) AllReadyH.nil
          go_simp
          go_at_call 12
          refine (K12.out _ H5).mono ?_
          rintro e w6 ⟨rfl, H6⟩
          refine hK.out _ _ ?_ (fun hHeld => ?_)
          · exact ⟨(dd_cells H6.out.2).c1, (dd_cells H6.out.2).c2, (dd_cells H6.out.2).c3⟩
          clear hK K
          try simp only [Act.put, List.setIfInBounds_toArray, List.set_cons_zero, List.set_cons_succ]
          (refine wpAnyH_take (i := 12) (v := ?_) (by simp only [List.getElem?_toArray, List.getElem?_cons_zero, List.getElem?_cons_succ]; rfl) (by kernel_rfl) (by kernel_rfl) (by kernel_rfl) (fun _ _ _ h => h) (Or.inl ⟨by rfl, ?_⟩) (by assumption) ?_; rotate_left; (· (intro w hSw; (try dsimp only at hSw); go_simp <;> with_reducible rfl)); try simp only [Act.put, List.setIfInBounds_toArray, List.set_cons_zero, List.set_cons_succ])
          refine wpAnyH_done (by kernel_rfl) ?_ _
          refine NoPanic.normal ?_
          clear hHeld H5 K11 K12 h0 h1 h2 h3 h4
          obtain ⟨h0, h1, h2, h3, h4, _, _, _, _, _⟩ := dd_cells H6.out.2
          have K20 : Calls Try.prog 20 #[.pointer (some ⟨tb, 0, none⟩), .pointer (some ⟨rt, 0, none⟩), .agg #[.int .i64 x1, .int .i64 x2]] w6 fun e w' => e = .returned (.bool true) ∧ Hid (Pl w w' tb rb wb rt (k + 1) gt2 gr2) := by
            refine (fine20 (x1, x2) (H6.out.1.main (by omega)) HX.out.1).mono ?_
            rintro e w' ⟨rfl, hb⟩
            exact ⟨rfl, H6.out.1.below hb⟩
          go_wp2_with fail
          refine K20.mono ?_
          rintro e w7 ⟨rfl, H7⟩
          clear K20 H6
          go_wp2_with fail
          go_roundw
          case rel => exact ⟨k + 1, gt2, gr2, by omega, by omega, by go_num, rfl, rfl, H7⟩
          case measure => simp [intOf]; omega
        · by_cases kd1 : kd = 1
          · subst kd1
            obtain ⟨n1, s1, m1, q1, G1, rs1, ws1, HP⟩ : ∃ n1 s1 m1 q1 G1 rs1 ws1, Hid (Px w w4 tb rb wb rt gt2 gr2 xb (.cells #[.int .i64 1, .int .i64 x1, .int .i64 x2, .int .i64 nd, .slice da dn dc] 31 (0, 0)) n1 s1 m1 q1 G1 rs1 ws1 ∧ Lk m1 q1 rs1 ws1 ∧ (n1 ≤ k ∧ rs1.length ≤ k ∧ ws1.length ≤ k ∧ ∀ y, (m1 y).length ≤ k)) := by
              obtain ⟨n1, s1, m1, q1, G1, rs1, ws1, h⟩ := px_of HM2.out.1 HM2.out.2
              exact ⟨n1, s1, m1, q1, G1, rs1, ws1, h⟩
            obtain ⟨h0, h1, h2, h3, h4, _, _, _, _, _⟩ := dd_cells HM2.out.2
            have K14 : Hid (∀ u, Below w4.heap.size w4 u → Calls Try.prog 14 #[.pointer (some ⟨tb, 0, none⟩), .agg #[.int .i64 x1, .int .i64 x2]] u fun e w' => ∃ a4 k4 c4, e = .returned (.slice a4 k4 c4) ∧ Hid (In w' a4 k4 (m1 (x1, x2)) ∧ (∀ g, blk a4 = some g → g < w'.heap.size ∧ g ≠ rt) ∧ ∃ s', Px w w' tb rb wb rt gt2 gr2 xb (.cells #[.int .i64 1, .int .i64 x1, .int .i64 x2, .int .i64 nd, .slice da dn dc] 31 (0, 0)) n1 s' (setAt m1 (x1, x2) []) q1 G1 rs1 ws1)) := fun u hu => by
              obtain ⟨a1, a2, a3⟩ := HP.out
              exact px14 (a1.below hu) HX.out.1
            have K15 : Hid (∀ u a4 k4, Hid (In u a4 k4 (m1 (x1, x2)) ∧ (∀ g, blk a4 = some g → g < u.heap.size ∧ g ≠ rt) ∧ ∃ s', Px w u tb rb wb rt gt2 gr2 xb (.cells #[.int .i64 1, .int .i64 x1, .int .i64 x2, .int .i64 nd, .slice da dn dc] 31 (0, 0)) n1 s' (setAt m1 (x1, x2) []) q1 G1 rs1 ws1) → Calls Try.prog 15 #[.pointer (some ⟨rt, 0, none⟩), .agg #[.int .i64 x1, .int .i64 x2]] u fun e w' => ∃ a5 k5 c5, e = .returned (.slice a5 k5 c5) ∧ Hid (In w' a4 k4 (m1 (x1, x2)) ∧ In w' a5 k5 (m1 (x1, x2)) ∧ (Pl w w' tb rb wb rt (k + 1) gt2 gr2 ∧ w'.heap[xb]? = some (.cells #[.int .i64 1, .int .i64 x1, .int .i64 x2, .int .i64 nd, .slice da dn dc] 31 (0, 0))))) := fun u a4 k4 hu => by
              obtain ⟨a1, a2, a3, a4', a5, a6⟩ := HP.out
              obtain ⟨b0, b1, s', b2⟩ := hu.out
              refine (px15 b2 a2 HX.out.1 (by omega)).mono ?_
              rintro e w' ⟨a5, k5, c5, rfl, d1, d2, G', rs', d3, d4, d5⟩
              exact ⟨a5, k5, c5, rfl, b0.keeps fun g e => d2 g (b1 g e).1 (b1 g e).2, d1, d3.pl d4 ⟨by omega, by omega, by omega, setAt_len a6⟩, d3.box⟩
            have K13 : Hid (∀ u a4 k4 c4 a5 k5 c5, Hid (In u a4 k4 (m1 (x1, x2)) ∧ In u a5 k5 (m1 (x1, x2)) ∧ (Pl w u tb rb wb rt (k + 1) gt2 gr2 ∧ u.heap[xb]? = some (.cells #[.int .i64 1, .int .i64 x1, .int .i64 x2, .int .i64 nd, .slice da dn dc] 31 (0, 0)))) → Calls Try.prog 13 #[.slice a4 k4 c4, .slice a5 k5 c5] u fun e w' => e = .returned (.bool true) ∧ Hid (Pl w w' tb rb wb rt (k + 1) gt2 gr2 ∧ w'.heap[xb]? = some (.cells #[.int .i64 1, .int .i64 x1, .int .i64 x2, .int .i64 nd, .slice da dn dc] 31 (0, 0)))) := fun u a4 k4 c4 a5 k5 c5 hu => by
              obtain ⟨a1, a2, a3, a4', a5', a6⟩ := HP.out
              obtain ⟨b0, b1, b2, b3⟩ := hu.out
              have l1 := b0.len
              have l2 := b1.len
              have l3 := a6 (x1, x2)
              refine (o13 a4 a5 k4 c4 k5 c5 (m1 (x1, x2)) (m1 (x1, x2)) u b0 b1 (by omega) (by omega)).mono ?_
              rintro e w' ⟨rfl, dd, rfl⟩
              exact ⟨by simp [sameI], b2.below (below_dN (Below.refl _ _) dd), b3⟩
            clear HP
            go_wp2_with fail
            refine wp_region_noPanic ?_
            refine wp_region_held_drew (S := fun u => u.cell? ⟨xb, 1, none⟩ = some (.int .i64 x1) ∧ u.cell? ⟨xb, 2, none⟩ = some (.int .i64 x2) ∧ u.cell? ⟨xb, 3, none⟩ = some (.int .i64 nd)) (by kernel_rfl) (⟨h1, h2, h3⟩) (fun hHeld => ?_)
            (refine wpAnyH_take (i := 0) (v := ?_) (by simp only [List.getElem?_toArray, List.getElem?_cons_zero]; rfl) (by kernel_rfl) (by kernel_rfl) (by kernel_rfl) (fun _ _ _ h => h) (Or.inl ⟨by rfl, ?_⟩) (by assumption) ?_; rotate_left; (· (intro w hSw; (try dsimp only at hSw); go_simp <;> with_reducible rfl)); try simp only [Act.put, List.setIfInBounds_toArray, List.set_cons_zero, List.set_cons_succ])
            (refine wpAnyH_take (i := 1) (v := ?_) (by simp only [List.getElem?_toArray, List.getElem?_cons_zero, List.getElem?_cons_succ]; rfl) (by kernel_rfl) (by kernel_rfl) (by kernel_rfl) (fun _ _ _ h => h) (Or.inl ⟨by rfl, ?_⟩) (by assumption) ?_; rotate_left; (· (intro w hSw; (try dsimp only at hSw); go_simp <;> with_reducible rfl)); try simp only [Act.put, List.setIfInBounds_toArray, List.set_cons_zero, List.set_cons_succ])
            (refine wpAnyH_take (i := 2) (v := ?_) (by simp only [List.getElem?_toArray, List.getElem?_cons_zero, List.getElem?_cons_succ]; rfl) (by kernel_rfl) (by kernel_rfl) (by kernel_rfl) (fun _ _ _ h => h) (Or.inl ⟨by rfl, ?_⟩) (by assumption) ?_; rotate_left; (· (intro w hSw; (try dsimp only at hSw); go_simp <;> with_reducible rfl)); try simp only [Act.put, List.setIfInBounds_toArray, List.set_cons_zero, List.set_cons_succ])
            (refine wpAnyH_take (i := 4) (v := ?_) (by simp only [List.getElem?_toArray, List.getElem?_cons_zero, List.getElem?_cons_succ]; rfl) (by kernel_rfl) (by kernel_rfl) (by kernel_rfl) (fun _ _ _ h => h) (Or.inl ⟨by rfl, ?_⟩) (by assumption) ?_; rotate_left; (· (intro w hSw; (try dsimp only at hSw); go_simp <;> with_reducible rfl)); try simp only [Act.put, List.setIfInBounds_toArray, List.set_cons_zero, List.set_cons_succ])
            (refine wpAnyH_take (i := 5) (v := ?_) (by simp only [List.getElem?_toArray, List.getElem?_cons_zero, List.getElem?_cons_succ]; rfl) (by kernel_rfl) (by kernel_rfl) (by kernel_rfl) (fun _ _ _ h => h) (Or.inl ⟨by rfl, ?_⟩) (by assumption) ?_; rotate_left; (· (intro w hSw; (try dsimp only at hSw); go_simp <;> with_reducible rfl)); try simp only [Act.put, List.setIfInBounds_toArray, List.set_cons_zero, List.set_cons_succ])
            (refine wpAnyH_take (i := 6) (v := ?_) (by simp only [List.getElem?_toArray, List.getElem?_cons_zero, List.getElem?_cons_succ]; rfl) (by kernel_rfl) (by kernel_rfl) (by kernel_rfl) (fun _ _ _ h => h) (Or.inl ⟨by rfl, ?_⟩) (by assumption) ?_; rotate_left; (· (intro w hSw; (try dsimp only at hSw); go_simp <;> with_reducible rfl)); try simp only [Act.put, List.setIfInBounds_toArray, List.set_cons_zero, List.set_cons_succ])
            refine wpAnyH_ready (rs := [3]) (by kernel_rfl) (by simp) ?_
            refine AllReadyH.cons (by simp only [List.getElem?_toArray, List.getElem?_cons_zero, List.getElem?_cons_succ]; rfl) (fun K hK => ?_) AllReadyH.nil
            go_simp
            go_at_call 14
            refine (K14.out _ (by first | exact Below.refl _ _ | exact (Below.refl _ _).drew | exact below_dN (Below.refl _ _) _)).mono ?_
            rintro e w5 ⟨a4, k4, c4, rfl, H5⟩
            refine hK.out _ _ ?_ (fun hHeld => ?_)
            · exact (by obtain ⟨_, _, _, h⟩ := H5.out; exact ⟨(dd_cells h.box).c1, (dd_cells h.box).c2, (dd_cells h.box).c3⟩)
            clear hK K
            try simp only [Act.put, List.setIfInBounds_toArray, List.set_cons_zero, List.set_cons_succ]
            refine wpAnyH_ready (rs := [7]) (by kernel_rfl) (by simp) ?_
            refine AllReadyH.cons (by simp only [List.getElem?_toArray, List.getElem?_cons_zero, List.getElem?_cons_succ]; rfl) (fun K hK => ?_) AllReadyH.nil
            go_simp
            go_at_call 15
            refine (K15.out _ _ _ H5).mono ?_
            rintro e w5b ⟨a5, k5, c5, rfl, H5b⟩
            refine hK.out _ _ ?_ (fun hHeld => ?_)
            · exact ⟨(dd_cells H5b.out.2.2.2).c1, (dd_cells H5b.out.2.2.2).c2, (dd_cells H5b.out.2.2.2).c3⟩
            clear hK K
            try simp only [Act.put, List.setIfInBounds_toArray, List.set_cons_zero, List.set_cons_succ]
            refine wpAnyH_ready (rs := [8]) (by kernel_rfl) (by simp) ?_
            refine AllReadyH.cons (by simp only [List.getElem?_toArray, List.getElem?_cons_zero, List.getElem?_cons_succ]; rfl) (fun K hK => ?_) AllReadyH.nil
            go_simp
            go_at_call 13
            refine (K13.out _ _ _ _ _ _ _ H5b).mono ?_
            rintro e w6 ⟨rfl, H6⟩
            refine hK.out _ _ ?_ (fun hHeld => ?_)
            · exact ⟨(dd_cells H6.out.2).c1, (dd_cells H6.out.2).c2, (dd_cells H6.out.2).c3⟩
            clear hK K
            try simp only [Act.put, List.setIfInBounds_toArray, List.set_cons_zero, List.set_cons_succ]
            (refine wpAnyH_take (i := 9) (v := ?_) (by simp only [List.getElem?_toArray, List.getElem?_cons_zero, List.getElem?_cons_succ]; rfl) (by kernel_rfl) (by kernel_rfl) (by kernel_rfl) (fun _ _ _ h => h) (Or.inl ⟨by rfl, ?_⟩) (by assumption) ?_; rotate_left; (· (intro w hSw; (try dsimp only at hSw); go_simp <;> with_reducible rfl)); try simp only [Act.put, List.setIfInBounds_toArray, List.set_cons_zero, List.set_cons_succ])
            refine wpAnyH_done (by kernel_rfl) ?_ _
            refine NoPanic.normal ?_
            clear hHeld H5 H5b K14 K15 K13 h0 h1 h2 h3 h4
            obtain ⟨h0, h1, h2, h3, h4, _, _, _, _, _⟩ := dd_cells H6.out.2
            have K20 : Calls Try.prog 20 #[.pointer (some ⟨tb, 0, none⟩), .pointer (some ⟨rt, 0, none⟩), .agg #[.int .i64 x1, .int .i64 x2]] w6 fun e w' => e = .returned (.bool true) ∧ Hid (Pl w w' tb rb wb rt (k + 1) gt2 gr2) := by
              refine (fine20 (x1, x2) (H6.out.1.main (by omega)) HX.out.1).mono ?_
              rintro e w' ⟨rfl, hb⟩
              exact ⟨rfl, H6.out.1.below hb⟩
            go_wp2_with fail
            refine K20.mono ?_
            rintro e w7 ⟨rfl, H7⟩
            clear K20 H6
            go_wp2_with fail
            go_roundw
            case rel => exact ⟨k + 1, gt2, gr2, by omega, by omega, by go_num, rfl, rfl, H7⟩
            case measure => simp [intOf]; omega
          · by_cases kd2 : kd = 2
            · subst kd2
              obtain ⟨n1, s1, m1, q1, G1, rs1, ws1, HP⟩ : ∃ n1 s1 m1 q1 G1 rs1 ws1, Hid (Px w w4 tb rb wb rt gt2 gr2 xb (.cells #[.int .i64 2, .int .i64 x1, .int .i64 x2, .int .i64 nd, .slice da dn dc] 31 (0, 0)) n1 s1 m1 q1 G1 rs1 ws1 ∧ Lk m1 q1 rs1 ws1 ∧ (n1 ≤ k ∧ rs1.length ≤ k ∧ ws1.length ≤ k ∧ ∀ y, (m1 y).length ≤ k)) := by
                obtain ⟨n1, s1, m1, q1, G1, rs1, ws1, h⟩ := px_of HM2.out.1 HM2.out.2
                exact ⟨n1, s1, m1, q1, G1, rs1, ws1, h⟩
              obtain ⟨h0, h1, h2, h3, h4, _, _, _, _, _⟩ := dd_cells HM2.out.2
              obtain ⟨r, hr⟩ : ∃ r, (!q1 (x1, x2)) = r := ⟨_, rfl⟩
              have K16 : Hid (∀ u, Below w4.heap.size w4 u → Calls Try.prog 16 #[.pointer (some ⟨tb, 0, none⟩), .agg #[.int .i64 x1, .int .i64 x2]] u fun e w' => e = .returned (.bool r) ∧ Hid (Px w w' tb rb wb rt gt2 gr2 xb (.cells #[.int .i64 2, .int .i64 x1, .int .i64 x2, .int .i64 nd, .slice da dn dc] 31 (0, 0)) (n1 + 1) s1 m1 (setAt q1 (x1, x2) true) G1 rs1 ws1)) := fun u hu => by
                obtain ⟨a1, a2, a3⟩ := HP.out
                rw [← hr]
                exact px16 (a1.below hu) HX.out.1 (by omega)
              have K17 : Hid (∀ u, Hid (Px w u tb rb wb rt gt2 gr2 xb (.cells #[.int .i64 2, .int .i64 x1, .int .i64 x2, .int .i64 nd, .slice da dn dc] 31 (0, 0)) (n1 + 1) s1 m1 (setAt q1 (x1, x2) true) G1 rs1 ws1) → Calls Try.prog 17 #[.pointer (some ⟨rt, 0, none⟩), .agg #[.int .i64 x1, .int .i64 x2]] u fun e w' => e = .returned (.bool r) ∧ Hid (Pl w w' tb rb wb rt (k + 1) gt2 gr2 ∧ w'.heap[xb]? = some (.cells #[.int .i64 2, .int .i64 x1, .int .i64 x2, .int .i64 nd, .slice da dn dc] 31 (0, 0)))) := fun u hu => by
                obtain ⟨a1, a2, a3, a4, a5, a6⟩ := HP.out
                refine (px17 hu.out a2 HX.out.1 (by omega)).mono ?_
                rintro e w' ⟨rfl, G', ws', b2, b3, b4⟩
                exact ⟨by rw [← hr], b2.pl b3 ⟨by omega, by omega, by omega, fun y => by have := a6 y; omega⟩, b2.box⟩
              clear HP hr
              go_wp2_with fail
              refine wp_region_noPanic ?_
              refine wp_region_held_drew (S := fun u => u.cell? ⟨xb, 1, none⟩ = some (.int .i64 x1) ∧ u.cell? ⟨xb, 2, none⟩ = some (.int .i64 x2) ∧ u.cell? ⟨xb, 3, none⟩ = some (.int .i64 nd)) (by kernel_rfl) (⟨h1, h2, h3⟩) (fun hHeld => ?_)
              (refine wpAnyH_take (i := 0) (v := ?_) (by simp only [List.getElem?_toArray, List.getElem?_cons_zero]; rfl) (by kernel_rfl) (by kernel_rfl) (by kernel_rfl) (fun _ _ _ h => h) (Or.inl ⟨by rfl, ?_⟩) (by assumption) ?_; rotate_left; (· (intro w hSw; (try dsimp only at hSw); go_simp <;> with_reducible rfl)); try simp only [Act.put, List.setIfInBounds_toArray, List.set_cons_zero, List.set_cons_succ])
              (refine wpAnyH_take (i := 1) (v := ?_) (by simp only [List.getElem?_toArray, List.getElem?_cons_zero, List.getElem?_cons_succ]; rfl) (by kernel_rfl) (by kernel_rfl) (by kernel_rfl) (fun _ _ _ h => h) (Or.inl ⟨by rfl, ?_⟩) (by assumption) ?_; rotate_left; (· (intro w hSw; (try dsimp only at hSw); go_simp <;> with_reducible rfl)); try simp only [Act.put, List.setIfInBounds_toArray, List.set_cons_zero, List.set_cons_succ])
              (refine wpAnyH_take (i := 2) (v := ?_) (by simp only [List.getElem?_toArray, List.getElem?_cons_zero, List.getElem?_cons_succ]; rfl) (by kernel_rfl) (by kernel_rfl) (by kernel_rfl) (fun _ _ _ h => h) (Or.inl ⟨by rfl, ?_⟩) (by assumption) ?_; rotate_left; (· (intro w hSw; (try dsimp only at hSw); go_simp <;> with_reducible rfl)); try simp only [Act.put, List.setIfInBounds_toArray, List.set_cons_zero, List.set_cons_succ])
              (refine wpAnyH_take (i := 4) (v := ?_) (by simp only [List.getElem?_toArray, List.getElem?_cons_zero, List.getElem?_cons_succ]; rfl) (by kernel_rfl) (by kernel_rfl) (by kernel_rfl) (fun _ _ _ h => h) (Or.inl ⟨by rfl, ?_⟩) (by assumption) ?_; rotate_left; (· (intro w hSw; (try dsimp only at hSw); go_simp <;> with_reducible rfl)); try simp only [Act.put, List.setIfInBounds_toArray, List.set_cons_zero, List.set_cons_succ])
              (refine wpAnyH_take (i := 5) (v := ?_) (by simp only [List.getElem?_toArray, List.getElem?_cons_zero, List.getElem?_cons_succ]; rfl) (by kernel_rfl) (by kernel_rfl) (by kernel_rfl) (fun _ _ _ h => h) (Or.inl ⟨by rfl, ?_⟩) (by assumption) ?_; rotate_left; (· (intro w hSw; (try dsimp only at hSw); go_simp <;> with_reducible rfl)); try simp only [Act.put, List.setIfInBounds_toArray, List.set_cons_zero, List.set_cons_succ])
              (refine wpAnyH_take (i := 6) (v := ?_) (by simp only [List.getElem?_toArray, List.getElem?_cons_zero, List.getElem?_cons_succ]; rfl) (by kernel_rfl) (by kernel_rfl) (by kernel_rfl) (fun _ _ _ h => h) (Or.inl ⟨by rfl, ?_⟩) (by assumption) ?_; rotate_left; (· (intro w hSw; (try dsimp only at hSw); go_simp <;> with_reducible rfl)); try simp only [Act.put, List.setIfInBounds_toArray, List.set_cons_zero, List.set_cons_succ])
              refine wpAnyH_ready (rs := [3]) (by kernel_rfl) (by simp) ?_
              refine AllReadyH.cons (by simp only [List.getElem?_toArray, List.getElem?_cons_zero, List.getElem?_cons_succ]; rfl) (fun K hK => ?_) AllReadyH.nil
              go_simp
              go_at_call 16
              refine (K16.out _ (by first | exact Below.refl _ _ | exact (Below.refl _ _).drew | exact below_dN (Below.refl _ _) _)).mono ?_
              rintro e w5 ⟨rfl, H5⟩
              refine hK.out _ _ ?_ (fun hHeld => ?_)
              · exact ⟨(dd_cells H5.out.box).c1, (dd_cells H5.out.box).c2, (dd_cells H5.out.box).c3⟩
              clear hK K
              try simp only [Act.put, List.setIfInBounds_toArray, List.set_cons_zero, List.set_cons_succ]
              refine wpAnyH_ready (rs := [7]) (by kernel_rfl) (by simp) ?_
              refine AllReadyH.cons (by simp only [List.getElem?_toArray, List.getElem?_cons_zero, List.getElem?_cons_succ]; rfl) (fun K hK => ?_) AllReadyH.nil
              go_simp
              go_at_call 17
              refine (K17.out _ H5).mono ?_
              rintro e w6 ⟨rfl, H6⟩
              refine hK.out _ _ ?_ (fun hHeld => ?_)
              · exact ⟨(dd_cells H6.out.2).c1, (dd_cells H6.out.2).c2, (dd_cells H6.out.2).c3⟩
              clear hK K
              try simp only [Act.put, List.setIfInBounds_toArray, List.set_cons_zero, List.set_cons_succ]
              (refine wpAnyH_take (i := 8) (v := ?_) (by simp only [List.getElem?_toArray, List.getElem?_cons_zero, List.getElem?_cons_succ]; rfl) (by kernel_rfl) (by kernel_rfl) (by kernel_rfl) (fun _ _ _ h => h) (Or.inl ⟨by rfl, ?_⟩) (by assumption) ?_; rotate_left; (· (intro w hSw; (try dsimp only at hSw); go_simp <;> with_reducible rfl)); try simp only [Act.put, List.setIfInBounds_toArray, List.set_cons_zero, List.set_cons_succ])
              refine wpAnyH_done (by kernel_rfl) ?_ _
              refine NoPanic.normal ?_
              clear hHeld H5 K16 K17 h0 h1 h2 h3 h4
              obtain ⟨h0, h1, h2, h3, h4, _, _, _, _, _⟩ := dd_cells H6.out.2
              have K20 : Calls Try.prog 20 #[.pointer (some ⟨tb, 0, none⟩), .pointer (some ⟨rt, 0, none⟩), .agg #[.int .i64 x1, .int .i64 x2]] w6 fun e w' => e = .returned (.bool true) ∧ Hid (Pl w w' tb rb wb rt (k + 1) gt2 gr2) := by
                refine (fine20 (x1, x2) (H6.out.1.main (by omega)) HX.out.1).mono ?_
                rintro e w' ⟨rfl, hb⟩
                exact ⟨rfl, H6.out.1.below hb⟩
              go_wp2_with fail
              refine K20.mono ?_
              rintro e w7 ⟨rfl, H7⟩
              clear K20 H6
              go_wp2_with fail
              go_roundw
              case rel => exact ⟨k + 1, gt2, gr2, by omega, by omega, by go_num, rfl, rfl, H7⟩
              case measure => simp [intOf]; omega
            · obtain ⟨n1, s1, m1, q1, G1, rs1, ws1, HP⟩ : ∃ n1 s1 m1 q1 G1 rs1 ws1, Hid (Px w w4 tb rb wb rt gt2 gr2 xb (.cells #[.int .i64 kd, .int .i64 x1, .int .i64 x2, .int .i64 nd, .slice da dn dc] 31 (0, 0)) n1 s1 m1 q1 G1 rs1 ws1 ∧ Lk m1 q1 rs1 ws1 ∧ (n1 ≤ k ∧ rs1.length ≤ k ∧ ws1.length ≤ k ∧ ∀ y, (m1 y).length ≤ k)) := by
                obtain ⟨n1, s1, m1, q1, G1, rs1, ws1, h⟩ := px_of HM2.out.1 HM2.out.2
                exact ⟨n1, s1, m1, q1, G1, rs1, ws1, h⟩
              obtain ⟨h0, h1, h2, h3, h4, _, _, _, _, _⟩ := dd_cells HM2.out.2
              obtain ⟨xs, HXS⟩ : ∃ xs, Hid (Ns w da dn xs ∧ (∀ x ∈ xs, wfN x) ∧ dn ≤ 9223372036854775807) := by
                obtain ⟨_, xs, h⟩ := HX.out
                exact ⟨xs, h⟩
              have K18 : Calls Try.prog 18 #[.pointer (some ⟨tb, 0, none⟩), .slice da dn dc] w4 fun e w' => e = .returned (.tuple #[]) ∧ Hid (Px w w' tb rb wb rt gt2 gr2 xb (.cells #[.int .i64 kd, .int .i64 x1, .int .i64 x2, .int .i64 nd, .slice da dn dc] 31 (0, 0)) n1 s1 m1 (gotQ q1 xs) G1 rs1 ws1) := by
                obtain ⟨a1, a2, a3⟩ := HP.out
                obtain ⟨y1, y2, y3⟩ := HXS.out
                refine px18 a1 (y1.below a1.bel) y2 y3 ?_
                rcases y1.mem with e | ⟨b', o', e, hl, _⟩
                · exact .inl e
                · subst e
                  exact .inr fun g e => by cases e; exact hl
              have K19 : Hid (∀ u, Hid (Px w u tb rb wb rt gt2 gr2 xb (.cells #[.int .i64 kd, .int .i64 x1, .int .i64 x2, .int .i64 nd, .slice da dn dc] 31 (0, 0)) n1 s1 m1 (gotQ q1 xs) G1 rs1 ws1) → Calls Try.prog 19 #[.pointer (some ⟨rt, 0, none⟩), .slice da dn dc] u fun e w' => e = .returned (.tuple #[]) ∧ Hid (Pl w w' tb rb wb rt (k + 1) gt2 gr2 ∧ w'.heap[xb]? = some (.cells #[.int .i64 kd, .int .i64 x1, .int .i64 x2, .int .i64 nd, .slice da dn dc] 31 (0, 0)))) := fun u hu => by
                obtain ⟨a1, a2, a3, a4, a5, a6⟩ := HP.out
                obtain ⟨y1, y2, y3⟩ := HXS.out
                refine (px19 hu.out a2 (y1.below hu.out.bel) y3 (by omega)).mono ?_
                rintro e w' ⟨rfl, G', ws', b2, b3, b4⟩
                exact ⟨rfl, b2.pl b3 ⟨by omega, by omega, by omega, fun y => by have := a6 y; omega⟩, b2.box⟩
              clear HP
              go_wp2_with fail
              refine K18.mono ?_
              rintro e w5 ⟨rfl, H5⟩
              clear K18 h0 h1 h2 h3 h4
              obtain ⟨h0, h1, h2, h3, h4, _, _, _, _, _⟩ := dd_cells H5.out.box
              go_wp2_with fail
              refine (K19.out _ H5).mono ?_
              rintro e w6 ⟨rfl, H6⟩
              clear K19 H5 h0 h1 h2 h3 h4
              obtain ⟨h0, h1, h2, h3, h4, _, _, _, _, _⟩ := dd_cells H6.out.2
              have K20 : Calls Try.prog 20 #[.pointer (some ⟨tb, 0, none⟩), .pointer (some ⟨rt, 0, none⟩), .agg #[.int .i64 x1, .int .i64 x2]] w6 fun e w' => e = .returned (.bool true) ∧ Hid (Pl w w' tb rb wb rt (k + 1) gt2 gr2) := by
                refine (fine20 (x1, x2) (H6.out.1.main (by omega)) HX.out.1).mono ?_
                rintro e w' ⟨rfl, hb⟩
                exact ⟨rfl, H6.out.1.below hb⟩
              go_wp2_with fail
              refine K20.mono ?_
              rintro e w7 ⟨rfl, H7⟩
              clear K20 H6
              go_wp2_with fail
              go_roundw
              case rel => exact ⟨k + 1, gt2, gr2, by omega, by omega, by go_num, rfl, rfl, H7⟩
              case measure => simp [intOf]; omega
      · obtain ⟨hf, hhf⟩ : ∃ hf, (n : Int) / 2 = hf := ⟨_, rfl⟩
        have hne : ¬ (k : Int) = hf := fun e => hmid (by rw [hhf, e])
        clear hmid
        by_cases kd0 : kd = 0
        · subst kd0
          obtain ⟨n1, s1, m1, q1, G1, rs1, ws1, HP⟩ : ∃ n1 s1 m1 q1 G1 rs1 ws1, Hid (Px w V tb rb wb rt gt gr xb (.cells #[.int .i64 0, .int .i64 x1, .int .i64 x2, .int .i64 nd, .slice da dn dc] 31 (0, 0)) n1 s1 m1 q1 G1 rs1 ws1 ∧ Lk m1 q1 rs1 ws1 ∧ (n1 ≤ k ∧ rs1.length ≤ k ∧ ws1.length ≤ k ∧ ∀ y, (m1 y).length ≤ k)) := by
            obtain ⟨n1, s1, m1, q1, G1, rs1, ws1, h⟩ := px_of HM.out.1 HM.out.2
            exact ⟨n1, s1, m1, q1, G1, rs1, ws1, h⟩
          obtain ⟨h0, h1, h2, h3, h4, _, _, _, _, _⟩ := dd_cells HM.out.2
          obtain ⟨r, hr⟩ : ∃ r, (!hasI (m1 (x1, x2)) nd) = r := ⟨_, rfl⟩
          have K11 : Hid (∀ u, Below V.heap.size V u → Calls Try.prog 11 #[.pointer (some ⟨tb, 0, none⟩), .agg #[.int .i64 x1, .int .i64 x2], .int .i64 nd] u fun e w' => e = .returned (.bool r) ∧ Hid (∃ s', Px w w' tb rb wb rt gt gr xb (.cells #[.int .i64 0, .int .i64 x1, .int .i64 x2, .int .i64 nd, .slice da dn dc] 31 (0, 0)) (n1 + 1) s' (askM m1 (x1, x2) nd) q1 G1 rs1 ws1)) := fun u hu => by
            obtain ⟨a1, a2, a3⟩ := HP.out
            rw [← hr]
            exact px11 (a1.below hu) HX.out.1 (by omega) (by have := a3.2.2.2 (x1, x2); omega)
          have K12 : Hid (∀ u, Hid (∃ s', Px w u tb rb wb rt gt gr xb (.cells #[.int .i64 0, .int .i64 x1, .int .i64 x2, .int .i64 nd, .slice da dn dc] 31 (0, 0)) (n1 + 1) s' (askM m1 (x1, x2) nd) q1 G1 rs1 ws1) → Calls Try.prog 12 #[.pointer (some ⟨rt, 0, none⟩), .agg #[.int .i64 x1, .int .i64 x2], .int .i64 nd] u fun e w' => e = .returned (.bool r) ∧ Hid (Pl w w' tb rb wb rt (k + 1) gt gr ∧ w'.heap[xb]? = some (.cells #[.int .i64 0, .int .i64 x1, .int .i64 x2, .int .i64 nd, .slice da dn dc] 31 (0, 0)))) := fun u hu => by
            obtain ⟨a1, a2, a3, a4, a5, a6⟩ := HP.out
            obtain ⟨s', b1⟩ := hu.out
            refine (px12 b1 a2 HX.out.1 (by omega) (by have := a6 (x1, x2); omega)).mono ?_
            rintro e w' ⟨rfl, G', rs', b2, b3, b4⟩
            exact ⟨by rw [← hr], b2.pl b3 ⟨by omega, by omega, by omega, askM_len a6⟩, b2.box⟩
          clear HP hr
          go_wp2_with fail
          refine wp_region_noPanic ?_
          refine wp_region_held_drew (S := fun u => u.cell? ⟨xb, 1, none⟩ = some (.int .i64 x1) ∧ u.cell? ⟨xb, 2, none⟩ = some (.int .i64 x2) ∧ u.cell? ⟨xb, 3, none⟩ = some (.int .i64 nd)) (by kernel_rfl) (⟨h1, h2, h3⟩) (fun hHeld => ?_)
          (refine wpAnyH_take (i := 0) (v := ?_) (by simp only [List.getElem?_toArray, List.getElem?_cons_zero]; rfl) (by kernel_rfl) (by kernel_rfl) (by kernel_rfl) (fun _ _ _ h => h) (Or.inl ⟨by rfl, ?_⟩) (by assumption) ?_; rotate_left; (· (intro w hSw; (try dsimp only at hSw); go_simp <;> with_reducible rfl)); try simp only [Act.put, List.setIfInBounds_toArray, List.set_cons_zero, List.set_cons_succ])
          (refine wpAnyH_take (i := 1) (v := ?_) (by simp only [List.getElem?_toArray, List.getElem?_cons_zero, List.getElem?_cons_succ]; rfl) (by kernel_rfl) (by kernel_rfl) (by kernel_rfl) (fun _ _ _ h => h) (Or.inl ⟨by rfl, ?_⟩) (by assumption) ?_; rotate_left; (· (intro w hSw; (try dsimp only at hSw); go_simp <;> with_reducible rfl)); try simp only [Act.put, List.setIfInBounds_toArray, List.set_cons_zero, List.set_cons_succ])
          (refine wpAnyH_take (i := 2) (v := ?_) (by simp only [List.getElem?_toArray, List.getElem?_cons_zero, List.getElem?_cons_succ]; rfl) (by kernel_rfl) (by kernel_rfl) (by kernel_rfl) (fun _ _ _ h => h) (Or.inl ⟨by rfl, ?_⟩) (by assumption) ?_; rotate_left; (· (intro w hSw; (try dsimp only at hSw); go_simp <;> with_reducible rfl)); try simp only [Act.put, List.setIfInBounds_toArray, List.set_cons_zero, List.set_cons_succ])
          (refine wpAnyH_take (i := 3) (v := ?_) (by simp only [List.getElem?_toArray, List.getElem?_cons_zero, List.getElem?_cons_succ]; rfl) (by kernel_rfl) (by kernel_rfl) (by kernel_rfl) (fun _ _ _ h => h) (Or.inl ⟨by rfl, ?_⟩) (by assumption) ?_; rotate_left; (· (intro w hSw; (try dsimp only at hSw); go_simp <;> with_reducible rfl)); try simp only [Act.put, List.setIfInBounds_toArray, List.set_cons_zero, List.set_cons_succ])
          (refine wpAnyH_take (i := 4) (v := ?_) (by simp only [List.getElem?_toArray, List.getElem?_cons_zero, List.getElem?_cons_succ]; rfl) (by kernel_rfl) (by kernel_rfl) (by kernel_rfl) (fun _ _ _ h => h) (Or.inl ⟨by rfl, ?_⟩) (by assumption) ?_; rotate_left; (· (intro w hSw; (try dsimp only at hSw); go_simp <;> with_reducible rfl)); try simp only [Act.put, List.setIfInBounds_toArray, List.set_cons_zero, List.set_cons_succ])
          (refine wpAnyH_take (i := 6) (v := ?_) (by simp only [List.getElem?_toArray, List.getElem?_cons_zero, List.getElem?_cons_succ]; rfl) (by kernel_rfl) (by kernel_rfl) (by kernel_rfl) (fun _ _ _ h => h) (Or.inl ⟨by rfl, ?_⟩) (by assumption) ?_; rotate_left; (· (intro w hSw; (try dsimp only at hSw); go_simp <;> with_reducible rfl)); try simp only [Act.put, List.setIfInBounds_toArray, List.set_cons_zero, List.set_cons_succ])
          (refine wpAnyH_take (i := 7) (v := ?_) (by simp only [List.getElem?_toArray, List.getElem?_cons_zero, List.getElem?_cons_succ]; rfl) (by kernel_rfl) (by kernel_rfl) (by kernel_rfl) (fun _ _ _ h => h) (Or.inl ⟨by rfl, ?_⟩) (by assumption) ?_; rotate_left; (· (intro w hSw; (try dsimp only at hSw); go_simp <;> with_reducible rfl)); try simp only [Act.put, List.setIfInBounds_toArray, List.set_cons_zero, List.set_cons_succ])
          (refine wpAnyH_take (i := 8) (v := ?_) (by simp only [List.getElem?_toArray, List.getElem?_cons_zero, List.getElem?_cons_succ]; rfl) (by kernel_rfl) (by kernel_rfl) (by kernel_rfl) (fun _ _ _ h => h) (Or.inl ⟨by rfl, ?_⟩) (by assumption) ?_; rotate_left; (· (intro w hSw; (try dsimp only at hSw); go_simp <;> with_reducible rfl)); try simp only [Act.put, List.setIfInBounds_toArray, List.set_cons_zero, List.set_cons_succ])
          (refine wpAnyH_take (i := 9) (v := ?_) (by simp only [List.getElem?_toArray, List.getElem?_cons_zero, List.getElem?_cons_succ]; rfl) (by kernel_rfl) (by kernel_rfl) (by kernel_rfl) (fun _ _ _ h => h) (Or.inl ⟨by rfl, ?_⟩) (by assumption) ?_; rotate_left; (· (intro w hSw; (try dsimp only at hSw); go_simp <;> with_reducible rfl)); try simp only [Act.put, List.setIfInBounds_toArray, List.set_cons_zero, List.set_cons_succ])
          (refine wpAnyH_take (i := 10) (v := ?_) (by simp only [List.getElem?_toArray, List.getElem?_cons_zero, List.getElem?_cons_succ]; rfl) (by kernel_rfl) (by kernel_rfl) (by kernel_rfl) (fun _ _ _ h => h) (Or.inl ⟨by rfl, ?_⟩) (by assumption) ?_; rotate_left; (· (intro w hSw; (try dsimp only at hSw); go_simp <;> with_reducible rfl)); try simp only [Act.put, List.setIfInBounds_toArray, List.set_cons_zero, List.set_cons_succ])
          refine wpAnyH_ready (rs := [5]) (by kernel_rfl) (by simp) ?_
          refine AllReadyH.cons (by simp only [List.getElem?_toArray, List.getElem?_cons_zero, List.getElem?_cons_succ]; rfl) (fun K hK => ?_) AllReadyH.nil
          go_simp
          go_at_call 11
          refine (K11.out _ (by first | exact Below.refl _ _ | exact (Below.refl _ _).drew | exact below_dN (Below.refl _ _) _)).mono ?_
          rintro e w5 ⟨rfl, H5⟩
          refine hK.out _ _ ?_ (fun hHeld => ?_)
          · exact (by obtain ⟨_, h⟩ := H5.out; exact ⟨(dd_cells h.box).c1, (dd_cells h.box).c2, (dd_cells h.box).c3⟩)
          clear hK K
          try simp only [Act.put, List.setIfInBounds_toArray, List.set_cons_zero, List.set_cons_succ]
          refine wpAnyH_ready (rs := [11]) (by kernel_rfl) (by simp) ?_
          refine AllReadyH.cons (by simp only [List.getElem?_toArray, List.getElem?_cons_zero, List.getElem?_cons_succ]; rfl) (fun K hK => ?_) AllReadyH.nil
          go_simp
          go_at_call 12
          refine (K12.out _ H5).mono ?_
          rintro e w6 ⟨rfl, H6⟩
          refine hK.out _ _ ?_ (fun hHeld => ?_)
          · exact ⟨(dd_cells H6.out.2).c1, (dd_cells H6.out.2).c2, (dd_cells H6.out.2).c3⟩
          clear hK K
          try simp only [Act.put, List.setIfInBounds_toArray, List.set_cons_zero, List.set_cons_succ]
          (refine wpAnyH_take (i := 12) (v := ?_) (by simp only [List.getElem?_toArray, List.getElem?_cons_zero, List.getElem?_cons_succ]; rfl) (by kernel_rfl) (by kernel_rfl) (by kernel_rfl) (fun _ _ _ h => h) (Or.inl ⟨by rfl, ?_⟩) (by assumption) ?_; rotate_left; (· (intro w hSw; (try dsimp only at hSw); go_simp <;> with_reducible rfl)); try simp only [Act.put, List.setIfInBounds_toArray, List.set_cons_zero, List.set_cons_succ])
          refine wpAnyH_done (by kernel_rfl) ?_ _
          refine NoPanic.normal ?_
          clear hHeld H5 K11 K12 h0 h1 h2 h3 h4
          obtain ⟨h0, h1, h2, h3, h4, _, _, _, _, _⟩ := dd_cells H6.out.2
          have K20 : Calls Try.prog 20 #[.pointer (some ⟨tb, 0, none⟩), .pointer (some ⟨rt, 0, none⟩), .agg #[.int .i64 x1, .int .i64 x2]] w6 fun e w' => e = .returned (.bool true) ∧ Hid (Pl w w' tb rb wb rt (k + 1) gt gr) := by
            refine (fine20 (x1, x2) (H6.out.1.main (by omega)) HX.out.1).mono ?_
            rintro e w' ⟨rfl, hb⟩
            exact ⟨rfl, H6.out.1.below hb⟩
          go_wp2_with fail
          refine K20.mono ?_
          rintro e w7 ⟨rfl, H7⟩
          clear K20 H6
          go_wp2_with fail
          go_roundw
          case rel => exact ⟨k + 1, gt, gr, by omega, by omega, by go_num, rfl, rfl, H7⟩
          case measure => simp [intOf]; omega
        · by_cases kd1 : kd = 1
          · subst kd1
            obtain ⟨n1, s1, m1, q1, G1, rs1, ws1, HP⟩ : ∃ n1 s1 m1 q1 G1 rs1 ws1, Hid (Px w V tb rb wb rt gt gr xb (.cells #[.int .i64 1, .int .i64 x1, .int .i64 x2, .int .i64 nd, .slice da dn dc] 31 (0, 0)) n1 s1 m1 q1 G1 rs1 ws1 ∧ Lk m1 q1 rs1 ws1 ∧ (n1 ≤ k ∧ rs1.length ≤ k ∧ ws1.length ≤ k ∧ ∀ y, (m1 y).length ≤ k)) := by
              obtain ⟨n1, s1, m1, q1, G1, rs1, ws1, h⟩ := px_of HM.out.1 HM.out.2
              exact ⟨n1, s1, m1, q1, G1, rs1, ws1, h⟩
            obtain ⟨h0, h1, h2, h3, h4, _, _, _, _, _⟩ := dd_cells HM.out.2
            have K14 : Hid (∀ u, Below V.heap.size V u → Calls Try.prog 14 #[.pointer (some ⟨tb, 0, none⟩), .agg #[.int .i64 x1, .int .i64 x2]] u fun e w' => ∃ a4 k4 c4, e = .returned (.slice a4 k4 c4) ∧ Hid (In w' a4 k4 (m1 (x1, x2)) ∧ (∀ g, blk a4 = some g → g < w'.heap.size ∧ g ≠ rt) ∧ ∃ s', Px w w' tb rb wb rt gt gr xb (.cells #[.int .i64 1, .int .i64 x1, .int .i64 x2, .int .i64 nd, .slice da dn dc] 31 (0, 0)) n1 s' (setAt m1 (x1, x2) []) q1 G1 rs1 ws1)) := fun u hu => by
              obtain ⟨a1, a2, a3⟩ := HP.out
              exact px14 (a1.below hu) HX.out.1
            have K15 : Hid (∀ u a4 k4, Hid (In u a4 k4 (m1 (x1, x2)) ∧ (∀ g, blk a4 = some g → g < u.heap.size ∧ g ≠ rt) ∧ ∃ s', Px w u tb rb wb rt gt gr xb (.cells #[.int .i64 1, .int .i64 x1, .int .i64 x2, .int .i64 nd, .slice da dn dc] 31 (0, 0)) n1 s' (setAt m1 (x1, x2) []) q1 G1 rs1 ws1) → Calls Try.prog 15 #[.pointer (some ⟨rt, 0, none⟩), .agg #[.int .i64 x1, .int .i64 x2]] u fun e w' => ∃ a5 k5 c5, e = .returned (.slice a5 k5 c5) ∧ Hid (In w' a4 k4 (m1 (x1, x2)) ∧ In w' a5 k5 (m1 (x1, x2)) ∧ (Pl w w' tb rb wb rt (k + 1) gt gr ∧ w'.heap[xb]? = some (.cells #[.int .i64 1, .int .i64 x1, .int .i64 x2, .int .i64 nd, .slice da dn dc] 31 (0, 0))))) := fun u a4 k4 hu => by
              obtain ⟨a1, a2, a3, a4', a5, a6⟩ := HP.out
              obtain ⟨b0, b1, s', b2⟩ := hu.out
              refine (px15 b2 a2 HX.out.1 (by omega)).mono ?_
              rintro e w' ⟨a5, k5, c5, rfl, d1, d2, G', rs', d3, d4, d5⟩
              exact ⟨a5, k5, c5, rfl, b0.keeps fun g e => d2 g (b1 g e).1 (b1 g e).2, d1, d3.pl d4 ⟨by omega, by omega, by omega, setAt_len a6⟩, d3.box⟩
            have K13 : Hid (∀ u a4 k4 c4 a5 k5 c5, Hid (In u a4 k4 (m1 (x1, x2)) ∧ In u a5 k5 (m1 (x1, x2)) ∧ (Pl w u tb rb wb rt (k + 1) gt gr ∧ u.heap[xb]? = some (.cells #[.int .i64 1, .int .i64 x1, .int .i64 x2, .int .i64 nd, .slice da dn dc] 31 (0, 0)))) → Calls Try.prog 13 #[.slice a4 k4 c4, .slice a5 k5 c5] u fun e w' => e = .returned (.bool true) ∧ Hid (Pl w w' tb rb wb rt (k + 1) gt gr ∧ w'.heap[xb]? = some (.cells #[.int .i64 1, .int .i64 x1, .int .i64 x2, .int .i64 nd, .slice da dn dc] 31 (0, 0)))) := fun u a4 k4 c4 a5 k5 c5 hu => by
              obtain ⟨a1, a2, a3, a4', a5', a6⟩ := HP.out
              obtain ⟨b0, b1, b2, b3⟩ := hu.out
              have l1 := b0.len
              have l2 := b1.len
              have l3 := a6 (x1, x2)
              refine (o13 a4 a5 k4 c4 k5 c5 (m1 (x1, x2)) (m1 (x1, x2)) u b0 b1 (by omega) (by omega)).mono ?_
              rintro e w' ⟨rfl, dd, rfl⟩
              exact ⟨by simp [sameI], b2.below (below_dN (Below.refl _ _) dd), b3⟩
            clear HP
            go_wp2_with fail
            refine wp_region_noPanic ?_
            refine wp_region_held_drew (S := fun u => u.cell? ⟨xb, 1, none⟩ = some (.int .i64 x1) ∧ u.cell? ⟨xb, 2, none⟩ = some (.int .i64 x2) ∧ u.cell? ⟨xb, 3, none⟩ = some (.int .i64 nd)) (by kernel_rfl) (⟨h1, h2, h3⟩) (fun hHeld => ?_)
            (refine wpAnyH_take (i := 0) (v := ?_) (by simp only [List.getElem?_toArray, List.getElem?_cons_zero]; rfl) (by kernel_rfl) (by kernel_rfl) (by kernel_rfl) (fun _ _ _ h => h) (Or.inl ⟨by rfl, ?_⟩) (by assumption) ?_; rotate_left; (· (intro w hSw; (try dsimp only at hSw); go_simp <;> with_reducible rfl)); try simp only [Act.put, List.setIfInBounds_toArray, List.set_cons_zero, List.set_cons_succ])
            (refine wpAnyH_take (i := 1) (v := ?_) (by simp only [List.getElem?_toArray, List.getElem?_cons_zero, List.getElem?_cons_succ]; rfl) (by kernel_rfl) (by kernel_rfl) (by kernel_rfl) (fun _ _ _ h => h) (Or.inl ⟨by rfl, ?_⟩) (by assumption) ?_; rotate_left; (· (intro w hSw; (try dsimp only at hSw); go_simp <;> with_reducible rfl)); try simp only [Act.put, List.setIfInBounds_toArray, List.set_cons_zero, List.set_cons_succ])
            (refine wpAnyH_take (i := 2) (v := ?_) (by simp only [List.getElem?_toArray, List.getElem?_cons_zero, List.getElem?_cons_succ]; rfl) (by kernel_rfl) (by kernel_rfl) (by kernel_rfl) (fun _ _ _ h => h) (Or.inl ⟨by rfl, ?_⟩) (by assumption) ?_; rotate_left; (· (intro w hSw; (try dsimp only at hSw); go_simp <;> with_reducible rfl)); try simp only [Act.put, List.setIfInBounds_toArray, List.set_cons_zero, List.set_cons_succ])
            (refine wpAnyH_take (i := 4) (v := ?_) (by simp only [List.getElem?_toArray, List.getElem?_cons_zero, List.getElem?_cons_succ]; rfl) (by kernel_rfl) (by kernel_rfl) (by kernel_rfl) (fun _ _ _ h => h) (Or.inl ⟨by rfl, ?_⟩) (by assumption) ?_; rotate_left; (· (intro w hSw; (try dsimp only at hSw); go_simp <;> with_reducible rfl)); try simp only [Act.put, List.setIfInBounds_toArray, List.set_cons_zero, List.set_cons_succ])
            (refine wpAnyH_take (i := 5) (v := ?_) (by simp only [List.getElem?_toArray, List.getElem?_cons_zero, List.getElem?_cons_succ]; rfl) (by kernel_rfl) (by kernel_rfl) (by kernel_rfl) (fun _ _ _ h => h) (Or.inl ⟨by rfl, ?_⟩) (by assumption) ?_; rotate_left; (· (intro w hSw; (try dsimp only at hSw); go_simp <;> with_reducible rfl)); try simp only [Act.put, List.setIfInBounds_toArray, List.set_cons_zero, List.set_cons_succ])
            (refine wpAnyH_take (i := 6) (v := ?_) (by simp only [List.getElem?_toArray, List.getElem?_cons_zero, List.getElem?_cons_succ]; rfl) (by kernel_rfl) (by kernel_rfl) (by kernel_rfl) (fun _ _ _ h => h) (Or.inl ⟨by rfl, ?_⟩) (by assumption) ?_; rotate_left; (· (intro w hSw; (try dsimp only at hSw); go_simp <;> with_reducible rfl)); try simp only [Act.put, List.setIfInBounds_toArray, List.set_cons_zero, List.set_cons_succ])
            refine wpAnyH_ready (rs := [3]) (by kernel_rfl) (by simp) ?_
            refine AllReadyH.cons (by simp only [List.getElem?_toArray, List.getElem?_cons_zero, List.getElem?_cons_succ]; rfl) (fun K hK => ?_) AllReadyH.nil
            go_simp
            go_at_call 14
            refine (K14.out _ (by first | exact Below.refl _ _ | exact (Below.refl _ _).drew | exact below_dN (Below.refl _ _) _)).mono ?_
            rintro e w5 ⟨a4, k4, c4, rfl, H5⟩
            refine hK.out _ _ ?_ (fun hHeld => ?_)
            · exact (by obtain ⟨_, _, _, h⟩ := H5.out; exact ⟨(dd_cells h.box).c1, (dd_cells h.box).c2, (dd_cells h.box).c3⟩)
            clear hK K
            try simp only [Act.put, List.setIfInBounds_toArray, List.set_cons_zero, List.set_cons_succ]
            refine wpAnyH_ready (rs := [7]) (by kernel_rfl) (by simp) ?_
            refine AllReadyH.cons (by simp only [List.getElem?_toArray, List.getElem?_cons_zero, List.getElem?_cons_succ]; rfl) (fun K hK => ?_) AllReadyH.nil
            go_simp
            go_at_call 15
            refine (K15.out _ _ _ H5).mono ?_
            rintro e w5b ⟨a5, k5, c5, rfl, H5b⟩
            refine hK.out _ _ ?_ (fun hHeld => ?_)
            · exact ⟨(dd_cells H5b.out.2.2.2).c1, (dd_cells H5b.out.2.2.2).c2, (dd_cells H5b.out.2.2.2).c3⟩
            clear hK K
            try simp only [Act.put, List.setIfInBounds_toArray, List.set_cons_zero, List.set_cons_succ]
            refine wpAnyH_ready (rs := [8]) (by kernel_rfl) (by simp) ?_
            refine AllReadyH.cons (by simp only [List.getElem?_toArray, List.getElem?_cons_zero, List.getElem?_cons_succ]; rfl) (fun K hK => ?_) AllReadyH.nil
            go_simp
            go_at_call 13
            refine (K13.out _ _ _ _ _ _ _ H5b).mono ?_
            rintro e w6 ⟨rfl, H6⟩
            refine hK.out _ _ ?_ (fun hHeld => ?_)
            · exact ⟨(dd_cells H6.out.2).c1, (dd_cells H6.out.2).c2, (dd_cells H6.out.2).c3⟩
            clear hK K
            try simp only [Act.put, List.setIfInBounds_toArray, List.set_cons_zero, List.set_cons_succ]
            (refine wpAnyH_take (i := 9) (v := ?_) (by simp only [List.getElem?_toArray, List.getElem?_cons_zero, List.getElem?_cons_succ]; rfl) (by kernel_rfl) (by kernel_rfl) (by kernel_rfl) (fun _ _ _ h => h) (Or.inl ⟨by rfl, ?_⟩) (by assumption) ?_; rotate_left; (· (intro w hSw; (try dsimp only at hSw); go_simp <;> with_reducible rfl)); try simp only [Act.put, List.setIfInBounds_toArray, List.set_cons_zero, List.set_cons_succ])
            refine wpAnyH_done (by kernel_rfl) ?_ _
            refine NoPanic.normal ?_
            clear hHeld H5 H5b K14 K15 K13 h0 h1 h2 h3 h4
            obtain ⟨h0, h1, h2, h3, h4, _, _, _, _, _⟩ := dd_cells H6.out.2
            have K20 : Calls Try.prog 20 #[.pointer (some ⟨tb, 0, none⟩), .pointer (some ⟨rt, 0, none⟩), .agg #[.int .i64 x1, .int .i64 x2]] w6 fun e w' => e = .returned (.bool true) ∧ Hid (Pl w w' tb rb wb rt (k + 1) gt gr) := by
              refine (fine20 (x1, x2) (H6.out.1.main (by omega)) HX.out.1).mono ?_
              rintro e w' ⟨rfl, hb⟩
              exact ⟨rfl, H6.out.1.below hb⟩
            go_wp2_with fail
            refine K20.mono ?_
            rintro e w7 ⟨rfl, H7⟩
            clear K20 H6
            go_wp2_with fail
            go_roundw
            case rel => exact ⟨k + 1, gt, gr, by omega, by omega, by go_num, rfl, rfl, H7⟩
            case measure => simp [intOf]; omega
          · by_cases kd2 : kd = 2
            · subst kd2
              obtain ⟨n1, s1, m1, q1, G1, rs1, ws1, HP⟩ : ∃ n1 s1 m1 q1 G1 rs1 ws1, Hid (Px w V tb rb wb rt gt gr xb (.cells #[.int .i64 2, .int .i64 x1, .int .i64 x2, .int .i64 nd, .slice da dn dc] 31 (0, 0)) n1 s1 m1 q1 G1 rs1 ws1 ∧ Lk m1 q1 rs1 ws1 ∧ (n1 ≤ k ∧ rs1.length ≤ k ∧ ws1.length ≤ k ∧ ∀ y, (m1 y).length ≤ k)) := by
                obtain ⟨n1, s1, m1, q1, G1, rs1, ws1, h⟩ := px_of HM.out.1 HM.out.2
                exact ⟨n1, s1, m1, q1, G1, rs1, ws1, h⟩
              obtain ⟨h0, h1, h2, h3, h4, _, _, _, _, _⟩ := dd_cells HM.out.2
              obtain ⟨r, hr⟩ : ∃ r, (!q1 (x1, x2)) = r := ⟨_, rfl⟩
              have K16 : Hid (∀ u, Below V.heap.size V u → Calls Try.prog 16 #[.pointer (some ⟨tb, 0, none⟩), .agg #[.int .i64 x1, .int .i64 x2]] u fun e w' => e = .returned (.bool r) ∧ Hid (Px w w' tb rb wb rt gt gr xb (.cells #[.int .i64 2, .int .i64 x1, .int .i64 x2, .int .i64 nd, .slice da dn dc] 31 (0, 0)) (n1 + 1) s1 m1 (setAt q1 (x1, x2) true) G1 rs1 ws1)) := fun u hu => by
                obtain ⟨a1, a2, a3⟩ := HP.out
                rw [← hr]
                exact px16 (a1.below hu) HX.out.1 (by omega)
              have K17 : Hid (∀ u, Hid (Px w u tb rb wb rt gt gr xb (.cells #[.int .i64 2, .int .i64 x1, .int .i64 x2, .int .i64 nd, .slice da dn dc] 31 (0, 0)) (n1 + 1) s1 m1 (setAt q1 (x1, x2) true) G1 rs1 ws1) → Calls Try.prog 17 #[.pointer (some ⟨rt, 0, none⟩), .agg #[.int .i64 x1, .int .i64 x2]] u fun e w' => e = .returned (.bool r) ∧ Hid (Pl w w' tb rb wb rt (k + 1) gt gr ∧ w'.heap[xb]? = some (.cells #[.int .i64 2, .int .i64 x1, .int .i64 x2, .int .i64 nd, .slice da dn dc] 31 (0, 0)))) := fun u hu => by
                obtain ⟨a1, a2, a3, a4, a5, a6⟩ := HP.out
                refine (px17 hu.out a2 HX.out.1 (by omega)).mono ?_
                rintro e w' ⟨rfl, G', ws', b2, b3, b4⟩
                exact ⟨by rw [← hr], b2.pl b3 ⟨by omega, by omega, by omega, fun y => by have := a6 y; omega⟩, b2.box⟩
              clear HP hr
              go_wp2_with fail
              refine wp_region_noPanic ?_
              refine wp_region_held_drew (S := fun u => u.cell? ⟨xb, 1, none⟩ = some (.int .i64 x1) ∧ u.cell? ⟨xb, 2, none⟩ = some (.int .i64 x2) ∧ u.cell? ⟨xb, 3, none⟩ = some (.int .i64 nd)) (by kernel_rfl) (⟨h1, h2, h3⟩) (fun hHeld => ?_)
              (refine wpAnyH_take (i := 0) (v := ?_) (by simp only [List.getElem?_toArray, List.getElem?_cons_zero]; rfl) (by kernel_rfl) (by kernel_rfl) (by kernel_rfl) (fun _ _ _ h => h) (Or.inl ⟨by rfl, ?_⟩) (by assumption) ?_; rotate_left; (· (intro w hSw; (try dsimp only at hSw); go_simp <;> with_reducible rfl)); try simp only [Act.put, List.setIfInBounds_toArray, List.set_cons_zero, List.set_cons_succ])
              (refine wpAnyH_take (i := 1) (v := ?_) (by simp only [List.getElem?_toArray, List.getElem?_cons_zero, List.getElem?_cons_succ]; rfl) (by kernel_rfl) (by kernel_rfl) (by kernel_rfl) (fun _ _ _ h => h) (Or.inl ⟨by rfl, ?_⟩) (by assumption) ?_; rotate_left; (· (intro w hSw; (try dsimp only at hSw); go_simp <;> with_reducible rfl)); try simp only [Act.put, List.setIfInBounds_toArray, List.set_cons_zero, List.set_cons_succ])
              (refine wpAnyH_take (i := 2) (v := ?_) (by simp only [List.getElem?_toArray, List.getElem?_cons_zero, List.getElem?_cons_succ]; rfl) (by kernel_rfl) (by kernel_rfl) (by kernel_rfl) (fun _ _ _ h => h) (Or.inl ⟨by rfl, ?_⟩) (by assumption) ?_; rotate_left; (· (intro w hSw; (try dsimp only at hSw); go_simp <;> with_reducible rfl)); try simp only [Act.put, List.setIfInBounds_toArray, List.set_cons_zero, List.set_cons_succ])
              (refine wpAnyH_take (i := 4) (v := ?_) (by simp only [List.getElem?_toArray, List.getElem?_cons_zero, List.getElem?_cons_succ]; rfl) (by kernel_rfl) (by kernel_rfl) (by kernel_rfl) (fun _ _ _ h => h) (Or.inl ⟨by rfl, ?_⟩) (by assumption) ?_; rotate_left; (· (intro w hSw; (try dsimp only at hSw); go_simp <;> with_reducible rfl)); try simp only [Act.put, List.setIfInBounds_toArray, List.set_cons_zero, List.set_cons_succ])
              (refine wpAnyH_take (i := 5) (v := ?_) (by simp only [List.getElem?_toArray, List.getElem?_cons_zero, List.getElem?_cons_succ]; rfl) (by kernel_rfl) (by kernel_rfl) (by kernel_rfl) (fun _ _ _ h => h) (Or.inl ⟨by rfl, ?_⟩) (by assumption) ?_; rotate_left; (· (intro w hSw; (try dsimp only at hSw); go_simp <;> with_reducible rfl)); try simp only [Act.put, List.setIfInBounds_toArray, List.set_cons_zero, List.set_cons_succ])
              (refine wpAnyH_take (i := 6) (v := ?_) (by simp only [List.getElem?_toArray, List.getElem?_cons_zero, List.getElem?_cons_succ]; rfl) (by kernel_rfl) (by kernel_rfl) (by kernel_rfl) (fun _ _ _ h => h) (Or.inl ⟨by rfl, ?_⟩) (by assumption) ?_; rotate_left; (· (intro w hSw; (try dsimp only at hSw); go_simp <;> with_reducible rfl)); try simp only [Act.put, List.setIfInBounds_toArray, List.set_cons_zero, List.set_cons_succ])
              refine wpAnyH_ready (rs := [3]) (by kernel_rfl) (by simp) ?_
              refine AllReadyH.cons (by simp only [List.getElem?_toArray, List.getElem?_cons_zero, List.getElem?_cons_succ]; rfl) (fun K hK => ?_) AllReadyH.nil
              go_simp
              go_at_call 16
              refine (K16.out _ (by first | exact Below.refl _ _ | exact (Below.refl _ _).drew | exact below_dN (Below.refl _ _) _)).mono ?_
              rintro e w5 ⟨rfl, H5⟩
              refine hK.out _ _ ?_ (fun hHeld => ?_)
              · exact ⟨(dd_cells H5.out.box).c1, (dd_cells H5.out.box).c2, (dd_cells H5.out.box).c3⟩
              clear hK K
              try simp only [Act.put, List.setIfInBounds_toArray, List.set_cons_zero, List.set_cons_succ]
              refine wpAnyH_ready (rs := [7]) (by kernel_rfl) (by simp) ?_
              refine AllReadyH.cons (by simp only [List.getElem?_toArray, List.getElem?_cons_zero, List.getElem?_cons_succ]; rfl) (fun K hK => ?_) AllReadyH.nil
              go_simp
              go_at_call 17
              refine (K17.out _ H5).mono ?_
              rintro e w6 ⟨rfl, H6⟩
              refine hK.out _ _ ?_ (fun hHeld => ?_)
              · exact ⟨(dd_cells H6.out.2).c1, (dd_cells H6.out.2).c2, (dd_cells H6.out.2).c3⟩
              clear hK K
              try simp only [Act.put, List.setIfInBounds_toArray, List.set_cons_zero, List.set_cons_succ]
              (refine wpAnyH_take (i := 8) (v := ?_) (by simp only [List.getElem?_toArray, List.getElem?_cons_zero, List.getElem?_cons_succ]; rfl) (by kernel_rfl) (by kernel_rfl) (by kernel_rfl) (fun _ _ _ h => h) (Or.inl ⟨by rfl, ?_⟩) (by assumption) ?_; rotate_left; (· (intro w hSw; (try dsimp only at hSw); go_simp <;> with_reducible rfl)); try simp only [Act.put, List.setIfInBounds_toArray, List.set_cons_zero, List.set_cons_succ])
              refine wpAnyH_done (by kernel_rfl) ?_ _
              refine NoPanic.normal ?_
              clear hHeld H5 K16 K17 h0 h1 h2 h3 h4
              obtain ⟨h0, h1, h2, h3, h4, _, _, _, _, _⟩ := dd_cells H6.out.2
              have K20 : Calls Try.prog 20 #[.pointer (some ⟨tb, 0, none⟩), .pointer (some ⟨rt, 0, none⟩), .agg #[.int .i64 x1, .int .i64 x2]] w6 fun e w' => e = .returned (.bool true) ∧ Hid (Pl w w' tb rb wb rt (k + 1) gt gr) := by
                refine (fine20 (x1, x2) (H6.out.1.main (by omega)) HX.out.1).mono ?_
                rintro e w' ⟨rfl, hb⟩
                exact ⟨rfl, H6.out.1.below hb⟩
              go_wp2_with fail
              refine K20.mono ?_
              rintro e w7 ⟨rfl, H7⟩
              clear K20 H6
              go_wp2_with fail
              go_roundw
              case rel => exact ⟨k + 1, gt, gr, by omega, by omega, by go_num, rfl, rfl, H7⟩
              case measure => simp [intOf]; omega
            · obtain ⟨n1, s1, m1, q1, G1, rs1, ws1, HP⟩ : ∃ n1 s1 m1 q1 G1 rs1 ws1, Hid (Px w V tb rb wb rt gt gr xb (.cells #[.int .i64 kd, .int .i64 x1, .int .i64 x2, .int .i64 nd, .slice da dn dc] 31 (0, 0)) n1 s1 m1 q1 G1 rs1 ws1 ∧ Lk m1 q1 rs1 ws1 ∧ (n1 ≤ k ∧ rs1.length ≤ k ∧ ws1.length ≤ k ∧ ∀ y, (m1 y).length ≤ k)) := by
                obtain ⟨n1, s1, m1, q1, G1, rs1, ws1, h⟩ := px_of HM.out.1 HM.out.2
                exact ⟨n1, s1, m1, q1, G1, rs1, ws1, h⟩
              obtain ⟨h0, h1, h2, h3, h4, _, _, _, _, _⟩ := dd_cells HM.out.2
              obtain ⟨xs, HXS⟩ : ∃ xs, Hid (Ns w da dn xs ∧ (∀ x ∈ xs, wfN x) ∧ dn ≤ 9223372036854775807) := by
                obtain ⟨_, xs, h⟩ := HX.out
                exact ⟨xs, h⟩
              have K18 : Calls Try.prog 18 #[.pointer (some ⟨tb, 0, none⟩), .slice da dn dc] V fun e w' => e = .returned (.tuple #[]) ∧ Hid (Px w w' tb rb wb rt gt gr xb (.cells #[.int .i64 kd, .int .i64 x1, .int .i64 x2, .int .i64 nd, .slice da dn dc] 31 (0, 0)) n1 s1 m1 (gotQ q1 xs) G1 rs1 ws1) := by
                obtain ⟨a1, a2, a3⟩ := HP.out
                obtain ⟨y1, y2, y3⟩ := HXS.out
                refine px18 a1 (y1.below a1.bel) y2 y3 ?_
                rcases y1.mem with e | ⟨b', o', e, hl, _⟩
                · exact .inl e
                · subst e
                  exact .inr fun g e => by cases e; exact hl
              have K19 : Hid (∀ u, Hid (Px w u tb rb wb rt gt gr xb (.cells #[.int .i64 kd, .int .i64 x1, .int .i64 x2, .int .i64 nd, .slice da dn dc] 31 (0, 0)) n1 s1 m1 (gotQ q1 xs) G1 rs1 ws1) → Calls Try.prog 19 #[.pointer (some ⟨rt, 0, none⟩), .slice da dn dc] u fun e w' => e = .returned (.tuple #[]) ∧ Hid (Pl w w' tb rb wb rt (k + 1) gt gr ∧ w'.heap[xb]? = some (.cells #[.int .i64 kd, .int .i64 x1, .int .i64 x2, .int .i64 nd, .slice da dn dc] 31 (0, 0)))) := fun u hu => by
                obtain ⟨a1, a2, a3, a4, a5, a6⟩ := HP.out
                obtain ⟨y1, y2, y3⟩ := HXS.out
                refine (px19 hu.out a2 (y1.below hu.out.bel) y3 (by omega)).mono ?_
                rintro e w' ⟨rfl, G', ws', b2, b3, b4⟩
                exact ⟨rfl, b2.pl b3 ⟨by omega, by omega, by omega, fun y => by have := a6 y; omega⟩, b2.box⟩
              clear HP
              go_wp2_with fail
              refine K18.mono ?_
              rintro e w5 ⟨rfl, H5⟩
              clear K18 h0 h1 h2 h3 h4
              obtain ⟨h0, h1, h2, h3, h4, _, _, _, _, _⟩ := dd_cells H5.out.box
              go_wp2_with fail
              refine (K19.out _ H5).mono ?_
              rintro e w6 ⟨rfl, H6⟩
              clear K19 H5 h0 h1 h2 h3 h4
              obtain ⟨h0, h1, h2, h3, h4, _, _, _, _, _⟩ := dd_cells H6.out.2
              have K20 : Calls Try.prog 20 #[.pointer (some ⟨tb, 0, none⟩), .pointer (some ⟨rt, 0, none⟩), .agg #[.int .i64 x1, .int .i64 x2]] w6 fun e w' => e = .returned (.bool true) ∧ Hid (Pl w w' tb rb wb rt (k + 1) gt gr) := by
                refine (fine20 (x1, x2) (H6.out.1.main (by omega)) HX.out.1).mono ?_
                rintro e w' ⟨rfl, hb⟩
                exact ⟨rfl, H6.out.1.below hb⟩
              go_wp2_with fail
              refine K20.mono ?_
              rintro e w7 ⟨rfl, H7⟩
              clear K20 H6
              go_wp2_with fail
              go_roundw
              case rel => exact ⟨k + 1, gt, gr, by omega, by omega, by go_num, rfl, rfl, H7⟩
              case measure => simp [intOf]; omega
    · have hcond : (¬ (k : Int) < (n : Int)) ∨ ((k : Int) < (n : Int) ∧ ¬ (k : Int) < 100) := by omega
      clear hlt
      rcases hcond with hc1 | ⟨hc1, hc2⟩
      · obtain ⟨wE, rfl⟩ : ∃ wE, wE = wr := ⟨_, rfl⟩
        have HE : Hid (Fine wE gt gr ∧ Below w.heap.size w wE) := ⟨HK.out.fine (by omega), HK.out.bel⟩
        clear HK
        go_wp2_with fail
        go_loopw [9] (fun i wx => ∃ j : Nat, j ≤ n ∧ i = .int .i64 j ∧ Hid (Below wE.heap.size wE wx)) (fun i _ => n - (intOf i).toNat)
        case atStart => exact ⟨0, Nat.zero_le _, rfl, Below.refl _ _⟩
        case round =>
          obtain ⟨j, hj, rfl, HB⟩ := hrel
          by_cases hjl : j < n
          · have hjI : (j : Int) < (n : Int) := by omega
            have hj0 : (0 : Int) ≤ (j : Int) := by omega
            obtain ⟨b, o, d, rfl, hdk, hdw, hcl⟩ := HV.out.1.at j hjl
            obtain ⟨p0, p1, p2, p3, p4⟩ := hcl wr (HE.out.2.trans (HB.out.mono HE.out.2.size))
            obtain ⟨kd, ⟨x1, x2⟩, nd, da, dn, dc⟩ := d
            simp only at p0 p1 p2 p3 p4 hdw
            have K20 : Calls Try.prog 20 #[.pointer (some ⟨gt, 0, none⟩), .pointer (some ⟨gr, 0, none⟩), .agg #[.int .i64 x1, .int .i64 x2]] wr fun e w' => e = .returned (.bool true) ∧ Hid (Below wE.heap.size wE w') := by
              refine (fine20 (x1, x2) (HE.out.1.below HB.out) hdw).mono ?_
              rintro e w' ⟨rfl, hb⟩
              exact ⟨rfl, HB.out.trans (hb.mono HB.out.size)⟩
            clear hdk hcl hdw
            go_wp2_with fail
            refine K20.mono ?_
            rintro e w7 ⟨rfl, H7⟩
            clear K20
            go_wp2_with fail
            go_roundw
            case rel => exact ⟨j + 1, by omega, by go_num, H7⟩
            case measure => simp [intOf]; omega
          · have hjI : ¬ (j : Int) < (n : Int) := by omega
            have H21 : Calls Try.prog 21 #[] wr fun e w' => e = .returned (.bool true) ∧ Hid (Below w.heap.size w w') := by
              refine (o21 wr).mono ?_
              rintro e w' ⟨rfl, hb⟩
              have h1 := HE.out.2.trans (HB.out.mono HE.out.2.size)
              exact ⟨rfl, h1.trans (hb.mono h1.size)⟩
            go_wp2_with fail
            refine H21.mono ?_
            rintro e w8 ⟨rfl, H8⟩
            clear H21
            go_wp2_with fail
            go_ret
            exact ⟨rfl, H8.out⟩
      · obtain ⟨wE, rfl⟩ : ∃ wE, wE = wr := ⟨_, rfl⟩
        have HE : Hid (Fine wE gt gr ∧ Below w.heap.size w wE) := ⟨HK.out.fine (by omega), HK.out.bel⟩
        clear HK
        go_wp2_with fail
        go_loopw [9] (fun i wx => ∃ j : Nat, j ≤ n ∧ i = .int .i64 j ∧ Hid (Below wE.heap.size wE wx)) (fun i _ => n - (intOf i).toNat)
        case atStart => exact ⟨0, Nat.zero_le _, rfl, Below.refl _ _⟩
        case round =>
          obtain ⟨j, hj, rfl, HB⟩ := hrel
          by_cases hjl : j < n
          · have hjI : (j : Int) < (n : Int) := by omega
            have hj0 : (0 : Int) ≤ (j : Int) := by omega
            obtain ⟨b, o, d, rfl, hdk, hdw, hcl⟩ := HV.out.1.at j hjl
            obtain ⟨p0, p1, p2, p3, p4⟩ := hcl wr (HE.out.2.trans (HB.out.mono HE.out.2.size))
            obtain ⟨kd, ⟨x1, x2⟩, nd, da, dn, dc⟩ := d
            simp only at p0 p1 p2 p3 p4 hdw
            have K20 : Calls Try.prog 20 #[.pointer (some ⟨gt, 0, none⟩), .pointer (some ⟨gr, 0, none⟩), .agg #[.int .i64 x1, .int .i64 x2]] wr fun e w' => e = .returned (.bool true) ∧ Hid (Below wE.heap.size wE w') := by
              refine (fine20 (x1, x2) (HE.out.1.below HB.out) hdw).mono ?_
              rintro e w' ⟨rfl, hb⟩
              exact ⟨rfl, HB.out.trans (hb.mono HB.out.size)⟩
            clear hdk hcl hdw
            go_wp2_with fail
            refine K20.mono ?_
            rintro e w7 ⟨rfl, H7⟩
            clear K20
            go_wp2_with fail
            go_roundw
            case rel => exact ⟨j + 1, by omega, by go_num, H7⟩
            case measure => simp [intOf]; omega
          · have hjI : ¬ (j : Int) < (n : Int) := by omega
            have H21 : Calls Try.prog 21 #[] wr fun e w' => e = .returned (.bool true) ∧ Hid (Below w.heap.size w w') := by
              refine (o21 wr).mono ?_
              rintro e w' ⟨rfl, hb⟩
              have h1 := HE.out.2.trans (HB.out.mono HE.out.2.size)
              exact ⟨rfl, h1.trans (hb.mono h1.size)⟩
            go_wp2_with fail
            refine H21.mono ?_
            rintro e w8 ⟨rfl, H8⟩
            clear H21
            go_wp2_with fail
            go_ret
            exact ⟨rfl, H8.out⟩
end Go.Proofs.Ytdonclnjgopmbaa
