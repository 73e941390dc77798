/- Contract of Waiting, once more: the rows of bytes of what it answers lie apart. -/
import Derived.Test.YthpbfaddojcohaaBF
namespace Go.Proofs.Ythpbfaddojcohaa
open Go.RowKit Go.Shelf
attribute [local go_sem] Oper.semAt_some
abbrev slD (d : Dg) : Value := .slice d.ba d.bn d.bc
/-- The rows of bytes lie apart. -/
def ApL (l : List Dg) : Prop := ∀ (i j : Nat) (d d' : Dg) (g : Nat), i ≠ j → l[i]? = some d → l[j]? = some d' → (slD d).ownBlock = some g → (slD d').ownBlock ≠ some g
theorem ApL.snoc {l : List Dg} {x : Dg} (h : ApL l) (M : Nat) (h1 : ∀ (i : Nat) (d : Dg) (g : Nat), l[i]? = some d → (slD d).ownBlock = some g → g < M) (h2 : ∀ g, (slD x).ownBlock = some g → M ≤ g) : ApL (l ++ [x]) := by
  have hget : ∀ (j : Nat) (u : Dg), (l ++ [x])[j]? = some u → (j < l.length ∧ l[j]? = some u) ∨ (j = l.length ∧ u = x) := by
    intro j u hu
    by_cases hj : j < l.length
    · rw [List.getElem?_append_left hj] at hu
      exact .inl ⟨hj, hu⟩
    · rw [List.getElem?_append_right (by omega)] at hu
      have h0 : j - l.length = 0 := by
        have := (List.getElem?_eq_some_iff.1 hu).1
        simp at this; omega
      rw [h0] at hu
      simp at hu
      exact .inr ⟨by omega, hu.symm⟩
  intro i j d d' g hne hd hd' hg hg'
  rcases hget i d hd with ⟨_, hi⟩ | ⟨hi, rfl⟩
  · rcases hget j d' hd' with ⟨_, hj⟩ | ⟨hj, rfl⟩
    · exact h i j d d' g hne hi hj hg hg'
    · have := h1 i d g hi hg
      have := h2 g hg'
      omega
  · rcases hget j d' hd' with ⟨_, hj⟩ | ⟨hj, rfl⟩
    · have := h1 j d' g hj hg'
      have := h2 g hg
      omega
    · omega
def WtI2 (n0 : Nat) (cs : List Dc) (N : Nt) (pre : List { x : Nat × Dg // QD N x }) (W : World) : Prop :=
  ∃ ua uc l1, Boxed W n0 34 (.slice ua l1.length uc) ∧ W.ownsRow n0 46 5 (.slice ua l1.length uc) l1.length (flatD l1) ∧ l1.length = pre.length ∧ OwnL W n0 l1 (pre.map fun x => csAt cs x.1) ∧ ApL l1
theorem wtI2_own (n0 : Nat) (cs : List Dc) (N : Nt) : Own (WtI2 n0 cs N) := by
  rintro s A B row ⟨ua, uc, l1, h1, h2, h3, h4, h5⟩ hg hr
  exact ⟨ua, uc, l1, cells_kept hg hr h1, owns_cells hg hr h2, h3, ownL_cells hg hr h4, h5⟩
/-- A row of the caller's own that says what waits. -/
def WaitPost2 (cs : List Dc) (w : World) (u : Value) (w' : World) : Prop := ∃ l', w'.ownsRow w.heap.size 46 5 u l'.length (flatD l') ∧ OwnL w' w.heap.size l' cs ∧ ApL l' ∧ Below w.heap.size w w'
set_option maxRecDepth 100000 in
set_option maxHeartbeats 4000000 in
theorem n15a (nb B : Nat) (v : Value) (N : Nt) (cs : List Dc) (w : World) (h : NtC w nb B v N cs) (hl : N.l.length * 56 ≤ 140737488355328) (hcl : ∀ x ∈ cs, x.xs.length ≤ 140737488355328) :
    Calls Try.prog 15 #[.pointer (some ⟨nb, 0, none⟩)] w fun e w' => ∃ u, e = .returned u ∧ WaitPost2 cs w u w' := by
  refine (callsIn_wide (n := 6)).1 ?_
  have HH : Hid (NtC w nb B v N cs) := h
  have HC : Hid (∀ x ∈ cs, x.xs.length ≤ 140737488355328) := hcl
  obtain ⟨i0, hi, hz, hsz, hby⟩ := info46
  obtain ⟨a, c, hv⟩ := owns_slice h.at_.own
  subst hv
  have hL0 : Below w.heap.size w (w.alloc (.cells #[.slice none 0 0] 34)) := (Below.refl _ w).alloc (Nat.le_refl _) _
  have H40 := n40 nb a N.l.length c (w.alloc (.cells #[.slice none 0 0] 34)) (h.at_.below hL0).cells.1
  have hrow : N.l.length = 0 ∨ ∃ g, a = some ⟨g, 0, none⟩ ∧ g < w.heap.size ∧ w.rangeAt g 0 (flatD N.l) := by
    rcases Nat.eq_zero_or_pos N.l.length with e | e
    · exact .inl e
    · obtain ⟨m, hm⟩ : ∃ m, N.l.length = m + 1 := ⟨N.l.length - 1, by omega⟩
      have ho := h.at_.own
      have ho2 := ho
      rw [hm] at ho2
      obtain ⟨g, cap, e2⟩ := owns_some ho2
      simp only [Value.slice.injEq] at e2
      obtain ⟨rfl, _, rfl⟩ := e2
      exact .inr ⟨g, rfl, (owns_lt ho rfl).2, owns_range ho⟩
  clear h hcl
  refine callsIn_of_wp_marks Try.func15 rfl trivial ?_ rfl
  simp only [Try.ntmps15, List.size_toArray, List.length_cons, List.length_nil, Nat.reduceAdd, Nat.reduceSub, Array.replicate_succ, Array.replicate_zero, List.push_toArray, List.append_toArray, List.nil_append, List.cons_append]
  gi_wp2_with (refine ⟨trivial, ?_⟩; gi_at_call 40; refine (callsIn_wide.2 H40).mono ?_; rintro e w' ⟨rfl, rfl⟩)
  have bL := (Boxed.new w 34 (.slice none 0 0)).alloc (.cells #[.slice a N.l.length c] 34)
  have bS := Boxed.new (w.alloc (.cells #[.slice none 0 0] 34)) 34 (.slice a N.l.length c)
  simp only [World.size_alloc] at bS
  have hB0 : Below w.heap.size w ((w.alloc (.cells #[.slice none 0 0] 34)).alloc (.cells #[.slice a N.l.length c] 34)) := hL0.alloc (by simp) _
  have hs0 : ((w.alloc (.cells #[.slice none 0 0] 34)).alloc (.cells #[.slice a N.l.length c] 34)).heap.size = w.heap.size + 2 := by simp
  obtain ⟨W0, hW0⟩ : ∃ W0, ((w.alloc (.cells #[.slice none 0 0] 34)).alloc (.cells #[.slice a N.l.length c] 34)) = W0 := ⟨_, rfl⟩
  rw [hW0] at bL bS hB0 hs0 ⊢
  clear hW0 H40 hL0
  obtain ⟨n0, hn0⟩ : ∃ n0, w.heap.size = n0 := ⟨_, rfl⟩
  have HST := all_stopsQ (QD N) 5 (by decide) (w.heap.size + 1) N.l a c w W0 (by omega) hB0 bS.cell (by unfold maxLen; omega) hrow (fun x hx => enum_mem hx)
  rw [hn0] at bL bS hB0 hs0 HST ⊢
  refine wpIn_rangeFunc_ownH rfl (by decide) (gf := 65) (lb := #[.pointer (some ⟨n0 + 1, 0, none⟩)]) rfl trivial (enters_of Try.func65 (by kernel_rfl) rfl)
    HST belowK_t (belowK_b (by omega)) (Below.refl _ _) (fun _ => rfl)
    (fun pre W => WtI2 n0 cs N pre W ∧ Below n0 w W)
    (fun _ _ _ => False)
    (OwnFrom.and (Own.from (wtI2_own n0 cs N) _) (ownFrom_below (by omega) (by omega)))
    (fun _ _ _ _ _ hs _ _ => hs)
    ⟨⟨none, 0, [], bL, World.ownsRow_nil _ _ _ _, rfl, by simp [OwnL], fun i j d d' g _ h => by simp at h⟩, hB0⟩
    (fun x a' W => ∃ Bx, n0 < Bx ∧ W.heap[Bx]? = some (.cells #[.int .i64 x.1.2.fr, .int .i64 x.1.2.to, .bool x.1.2.ak, .int .i64 x.1.2.sq, .slice x.1.2.ba x.1.2.bn x.1.2.bc] 46 (0, 0)) ∧ a' = { tmps := #[.pointer (some ⟨nb, 0, none⟩), undef, .slice none 0 0, .pointer (some ⟨n0, 0, none⟩), undef, .pointer (some ⟨Bx, 0, none⟩), .pointer (some ⟨nb, 0, none⟩), .bool false, .pointer (some ⟨nb, 0, none⟩), .pointer (some ⟨nb, 0, none⟩), .pointer (some ⟨nb, 0, none⟩), .func (.func 65) #[] #[.pointer (some ⟨n0 + 1, 0, none⟩)], .int .i64 x.1.1, .agg #[.int .i64 x.1.2.fr, .int .i64 x.1.2.to, .bool x.1.2.ak, .int .i64 x.1.2.sq, .slice x.1.2.ba x.1.2.bn x.1.2.bc], undef, undef, undef, undef, undef, undef], defers := [] })
    (fun x a' _ X Y row hs hg hr => by obtain ⟨Bx, h1, h2, h3⟩ := hs; exact ⟨Bx, h1, cells_kept hg (fun r e => (hr r e).2) h2, h3⟩)
    ?assign ?body ?done ?stop
  case assign =>
    rintro lp pre x W K ⟨⟨ua, uc, l1, h1, h2, h3, h4, h5⟩, hB1⟩ hK
    gi_wp2
    have hbw : Below W.heap.size W (W.alloc (.cells #[.int .i64 x.1.2.fr, .int .i64 x.1.2.to, .bool x.1.2.ak, .int .i64 x.1.2.sq, .slice x.1.2.ba x.1.2.bn x.1.2.bc] 46)) := (Below.refl _ W).alloc (Nat.le_refl _) _
    have hsz := hB1.size
    exact hK _ _ ((KeepsOthers.alloc _ _).from _) (hbw.mono (by omega)) ⟨⟨ua, uc, l1, h1.alloc _, h2.alloc _, h3, h4.below hbw, h5⟩, hB1.alloc (by omega) _⟩ ⟨W.heap.size, by have := h1.lt; omega, heap_alloc_new W _, rfl⟩
  case body =>
    rintro lp pre ⟨⟨xi, fr, to, ak, sq, ba, bn, bc⟩, hxi, hxd⟩ a' W hlp ⟨r, hr⟩ ⟨⟨ua, uc, l1, bU, rU, hlU, oU, apU⟩, hB1⟩ ⟨Bx, hBx, bX, rfl⟩ hlt
    simp only at hxi hxd
    have hnn : Below w.heap.size w W := by rw [hn0]; exact hB1
    have hcx : xi < cs.length := by rw [← HH.out.own.1]; exact hxi
    have hDx := HH.out.own.2 xi ⟨fr, to, ak, sq, ba, bn, bc⟩ cs[xi] hxd (List.getElem?_eq_getElem hcx)
    have hcs : csAt cs (xi, ⟨fr, to, ak, sq, ba, bn, bc⟩) = cs[xi] := by simp [csAt, hcx]
    have HCS : Hid (csAt cs (xi, ⟨fr, to, ak, sq, ba, bn, bc⟩) = cs[xi]) := hcs
    have HDI : Hid (DgIs ⟨fr, to, ak, sq, ba, bn, bc⟩ cs[xi]) := hDx.1
    have hlx : bn ≤ 140737488355328 := by
      have := HC.out cs[xi] (List.getElem_mem hcx)
      rw [← hDx.1.2.2.2.2] at this; exact this
    have H41 : Calls Try.prog 41 #[.agg #[.int .i64 fr, .int .i64 to, .bool ak, .int .i64 sq, .slice ba bn bc]] W.drew fun e w' => ∃ a c, e = .returned (.agg #[.int .i64 fr, .int .i64 to, .bool ak, .int .i64 sq, .slice a bn c]) ∧ OwnB w' W.drew.heap.size a bn c cs[xi].xs ∧ (ba = none → a = none ∧ c = 0) ∧ Below W.drew.heap.size W.drew w' := n41 ⟨fr, to, ak, sq, ba, bn, bc⟩ cs[xi].xs W.drew ((hDx.2.at.below hnn).below (Below.drew (Below.refl _ _))) hlx
    have hszn : n0 ≤ W.heap.size := by have := hB1.size; omega
    have hszW : Hid (n0 ≤ W.drew.heap.size) := hszn
    have x0 : W.cell? ⟨Bx, 0, none⟩ = some (.int .i64 fr) := by rw [cell_of_row W Bx 0 _ 46 (0, 0) bX]; rfl
    have x1 : W.cell? ⟨Bx, 1, none⟩ = some (.int .i64 to) := by rw [cell_of_row W Bx 1 _ 46 (0, 0) bX]; rfl
    have x2 : W.cell? ⟨Bx, 2, none⟩ = some (.bool ak) := by rw [cell_of_row W Bx 2 _ 46 (0, 0) bX]; rfl
    have x3 : W.cell? ⟨Bx, 3, none⟩ = some (.int .i64 sq) := by rw [cell_of_row W Bx 3 _ 46 (0, 0) bX]; rfl
    have x4 : W.cell? ⟨Bx, 4, none⟩ = some (.slice ba bn bc) := by rw [cell_of_row W Bx 4 _ 46 (0, 0) bX]; rfl
    have eU := bU.cell
    have HB3 : Hid (∀ w3, Below W.drew.heap.size W.drew w3 → Boxed w3 n0 34 (.slice ua l1.length uc) ∧ w3.cell? ⟨n0, 0, none⟩ = some (.slice ua l1.length uc) ∧ (∀ ob : Obj, (w3.alloc ob).cell? ⟨n0, 0, none⟩ = some (.slice ua l1.length uc)) ∧ True) := fun w3 hb => by
      have b3 : Boxed w3 n0 34 (.slice ua l1.length uc) := (hb.block n0 bU.lt).trans bU
      exact ⟨b3, b3.cell, fun ob => (b3.alloc ob).cell, trivial⟩
    have HR3 : Hid (∀ w3, Below W.drew.heap.size W.drew w3 → w3.ownsRow n0 46 5 (.slice ua l1.length uc) l1.length (flatD l1)) := fun w3 hb => owns_below (w := W.drew) rU hb
    have hl1 : (l1.length + 1) * 56 ≤ 140737488355328 := by rw [hlU]; omega
    have HAP : Hid (∀ (a3 : Option Addr) (c3 : Nat) (w3 : World), OwnB w3 W.drew.heap.size a3 bn c3 cs[xi].xs → ApL (l1 ++ [⟨fr, to, ak, sq, a3, bn, c3⟩])) := fun a3 c3 w3 ho3 => by
      refine apU.snoc W.heap.size (fun i d g hd hg => ?_) (fun g hg => (owns_lt ho3 hg).1)
      have hi := (List.getElem?_eq_some_iff.1 hd).1
      have hi2 : i < (pre.map fun x => csAt cs x.1).length := by rw [List.length_map]; omega
      exact (owns_lt (oU.2 i d _ hd (List.getElem?_eq_getElem hi2)).2 hg).2
    clear apU
    have HEND : Hid (∀ (w3 : World) (a3 : Option Addr) (c3 g' cap' : Nat) (w5 : World), Below W.drew.heap.size W.drew w3 → OwnB w3 W.drew.heap.size a3 bn c3 cs[xi].xs →
        w5.ownsRow n0 46 5 (.slice (some ⟨g', 0, none⟩) (l1.length + 1) cap') (l1.length + 1) (flatD l1 ++ [.int .i64 fr, .int .i64 to, .bool ak, .int .i64 sq, .slice a3 bn c3]) →
        (w3.alloc (.cells #[.int .i64 fr, .int .i64 to, .bool ak, .int .i64 sq, .slice a3 bn c3] 46)).grownBy w5 (Value.slice ua l1.length uc).ownBlock →
        KeepsFrom W0.heap.size W (w5.setCell ⟨n0, 0, none⟩ (.slice (some ⟨g', 0, none⟩) (l1.length + 1) cap')) ∧ Below n0 W (w5.setCell ⟨n0, 0, none⟩ (.slice (some ⟨g', 0, none⟩) (l1.length + 1) cap')) ∧
        WtI2 n0 cs N (pre ++ [⟨(xi, ⟨fr, to, ak, sq, ba, bn, bc⟩), hxi, hxd⟩]) (w5.setCell ⟨n0, 0, none⟩ (.slice (some ⟨g', 0, none⟩) (l1.length + 1) cap')) ∧ Below n0 w (w5.setCell ⟨n0, 0, none⟩ (.slice (some ⟨g', 0, none⟩) (l1.length + 1) cap'))) := fun w3 a3 c3 g' cap' w5 hb3 ho3 hown5 hgrow5 => by
      have hbW : Below W.heap.size W w3 := ((Below.refl _ W).drew).trans hb3
      have b3 : Boxed w3 n0 34 (.slice ua l1.length uc) := (hb3.block n0 bU.lt).trans bU
      have r3 := HR3.out w3 hb3
      have hs3 : n0 ≤ w3.heap.size := Nat.le_trans hszn hbW.size
      obtain ⟨hv1, hv2, hr2, hk2, hb2⟩ := b3.appended (by decide) r3 hs3 (Nat.le_refl _) hown5 hgrow5
      have hbn : Below n0 W (w5.setCell ⟨n0, 0, none⟩ (.slice (some ⟨g', 0, none⟩) (l1.length + 1) cap')) := (hbW.mono hszn).trans hb2
      refine ⟨((keeps_below hbW).trans hk2).from _, hbn, ⟨some ⟨g', 0, none⟩, cap', l1 ++ [⟨fr, to, ak, sq, a3, bn, c3⟩], ?_, ?_, by simp [hlU], ?_, ?_⟩, hB1.trans hbn⟩
      rotate_right
      · exact HAP.out a3 c3 w3 ho3
      · rw [List.length_append]; exact hv2
      · rw [List.length_append, flatD_append]; exact hr2
      · rw [List.map_append]
        have hty : ∀ r, (Value.slice ua l1.length uc).ownBlock = some r → ∃ (cu : Array Value) (t : TypeId), t ≠ 5 ∧ (w3.alloc (.cells #[.int .i64 fr, .int .i64 to, .bool ak, .int .i64 sq, .slice a3 bn c3] 46)).heap[r]? = some (.cells cu t (0, 0)) := fun r hr => by
          obtain ⟨cu, hcu⟩ := owns_type (r3.alloc (.cells #[.int .i64 fr, .int .i64 to, .bool ak, .int .i64 sq, .slice a3 bn c3] 46)) r hr
          exact ⟨cu, 46, by decide, hcu⟩
        have hset : ∀ {ba' : Option Addr} {bn' bc' : Nat} {ys : List Int}, OwnB w5 n0 ba' bn' bc' ys → OwnB (w5.setCell ⟨n0, 0, none⟩ (.slice (some ⟨g', 0, none⟩) (l1.length + 1) cap')) n0 ba' bn' bc' ys := fun ho => by
          refine owns_setO ho _ (fun e => ?_)
          obtain ⟨cu, hcu⟩ := owns_type ho _ e
          have h6 : w5.heap[n0]? = some (.cells #[.slice ua l1.length uc] 34 (0, 0)) := hv1
          rw [h6] at hcu; cases hcu
        refine OwnL.snoc ⟨by simpa using oU.1, fun i d x h1 h2 => ⟨(oU.2 i d x h1 h2).1, ?_⟩⟩ ⟨?_, ?_⟩
        · have o1 := owns_below (oU.2 i d x h1 h2).2 hbW
          exact hset (ownB_row (World.ownsRow.alloc o1 _) hgrow5 hty)
        · show DgIs _ (csAt cs (xi, ⟨fr, to, ak, sq, ba, bn, bc⟩))
          rw [HCS.out]; exact HDI.out
        · show OwnB _ n0 a3 bn c3 (csAt cs (xi, ⟨fr, to, ak, sq, ba, bn, bc⟩)).xs
          rw [HCS.out]
          exact hset (ownB_row (World.ownsRow.alloc (owns_base ho3 hszn) _) hgrow5 hty)
    have mixed : Try.prog.follows Departure.mixedOrders = true := by kernel_rfl
    clear hDx hcs hnn bX bU rU oU hr hlt hlU
    gi_wp2
    refine wpIn_region_any mixed ?_
    change wpAnyIn _ _ _ _ _ _ _ _ _ (World.drew _)
    refine wpAnyIn_ready (rs := [0, 1]) (by kernel_rfl) (by simp) ?_
    refine AllReadyIn.cons rfl (fun K hK => ?_) ?_
    · go_simp
      refine hK _ _ ?_
      clear hK K
      try simp only [Act.put, List.setIfInBounds_toArray, List.set_cons_zero, List.set_cons_succ]
      refine wpAnyIn_ready (rs := [1]) (by kernel_rfl) (by simp) ?_
      refine AllReadyIn.cons rfl (fun K hK => ?_) AllReadyIn.nil
      go_simp
      refine hK _ _ ?_
      clear hK K
      try simp only [Act.put, List.setIfInBounds_toArray, List.set_cons_zero, List.set_cons_succ]
      refine wpAnyIn_ready (rs := [2]) (by kernel_rfl) (by simp) ?_
      refine AllReadyIn.cons rfl (fun K hK => ?_) AllReadyIn.nil
      go_simp
      refine ⟨trivial, ?_⟩
      gi_at_call 41
      refine (CallsIn.inRound lp (callsIn_wide.2 H41)).mono ?_
      rintro e w3 ⟨a3, c3, rfl, ho3, _, hb3⟩
      obtain ⟨b3, e3a, e3b, f3⟩ := HB3.out w3 hb3
      simp only
      refine hK _ _ ?_
      clear hK K
      try simp only [Act.put, List.setIfInBounds_toArray, List.set_cons_zero, List.set_cons_succ]
      refine wpAnyIn_ready (rs := [3]) (by kernel_rfl) (by simp) ?_
      refine AllReadyIn.cons rfl (fun K hK => ?_) AllReadyIn.nil
      go_simp
      refine hK _ _ ?_
      clear hK K
      try simp only [Act.put, List.setIfInBounds_toArray, List.set_cons_zero, List.set_cons_succ]
      refine wpAnyIn_ready (rs := [4]) (by kernel_rfl) (by simp) ?_
      refine AllReadyIn.cons rfl (fun K hK => ?_) AllReadyIn.nil
      refine stepIn_append _ (by rfl) _ _ 34 (by rfl) n0 46 i0 _ 5 56 Try.underlying34 hi hz hsz hby rfl (by decide) (.slice ua l1.length uc) l1.length (flatD l1) (by rfl) ((HR3.out w3 hb3).alloc _) ⟨w3.heap.size, 0, none⟩ 1 1 [.int .i64 fr, .int .i64 to, .bool ak, .int .i64 sq, .slice a3 bn c3] (by rfl) (by rfl) (World.news_of_block (cs := #[.int .i64 fr, .int .i64 to, .bool ak, .int .i64 sq, .slice a3 bn c3]) (t := 46) (fr := (0, 0)) (heap_alloc_new w3 _)) (by simp [Value.oneCell']) (by unfold maxLen; omega) (by omega) (by simp; have := hb3.size; have := hszW.out; omega) ?_
      intro v' w5 hown5 hgrow5 _ hat5
      obtain ⟨g', cap', rfl⟩ := ownsRow_succ hown5
      obtain ⟨hv1, hv2, hr2, hk2, hb2⟩ := b3.appended (by decide) (HR3.out w3 hb3) (by have := hb3.size; have := hszW.out; omega) (by omega) hown5 hgrow5
      have hc1 := hv1.cell
      have hf1 := hv1.frozen
      refine hK _ _ ?_
      clear hK K
      try simp only [Act.put, List.setIfInBounds_toArray]
      refine wpAnyIn_ready (rs := [5]) (by kernel_rfl) (by simp) ?_
      refine AllReadyIn.cons rfl (fun K hK => ?_) AllReadyIn.nil
      go_simp
      refine hK _ _ ?_
      clear hK K
      try simp only [Act.put, List.setIfInBounds_toArray, List.set_cons_zero, List.set_cons_succ]
      refine wpAnyIn_done (by kernel_rfl) ?_ _
      gi_wp2
      exact HEND.out w3 a3 c3 g' cap' w5 hb3 ho3 hown5 hgrow5
    refine AllReadyIn.cons rfl (fun K hK => ?_) AllReadyIn.nil
    go_simp
    refine hK _ _ ?_
    clear hK K
    try simp only [Act.put, List.setIfInBounds_toArray, List.set_cons_zero, List.set_cons_succ]
    refine wpAnyIn_ready (rs := [0, 2]) (by kernel_rfl) (by simp) ?_
    refine AllReadyIn.cons rfl (fun K hK => ?_) ?_
    · go_simp
      refine hK _ _ ?_
      clear hK K
      try simp only [Act.put, List.setIfInBounds_toArray, List.set_cons_zero, List.set_cons_succ]
      refine wpAnyIn_ready (rs := [2]) (by kernel_rfl) (by simp) ?_
      refine AllReadyIn.cons rfl (fun K hK => ?_) AllReadyIn.nil
      go_simp
      refine ⟨trivial, ?_⟩
      gi_at_call 41
      refine (CallsIn.inRound lp (callsIn_wide.2 H41)).mono ?_
      rintro e w3 ⟨a3, c3, rfl, ho3, _, hb3⟩
      obtain ⟨b3, e3a, e3b, f3⟩ := HB3.out w3 hb3
      simp only
      refine hK _ _ ?_
      clear hK K
      try simp only [Act.put, List.setIfInBounds_toArray, List.set_cons_zero, List.set_cons_succ]
      refine wpAnyIn_ready (rs := [3]) (by kernel_rfl) (by simp) ?_
      refine AllReadyIn.cons rfl (fun K hK => ?_) AllReadyIn.nil
      go_simp
      refine hK _ _ ?_
      clear hK K
      try simp only [Act.put, List.setIfInBounds_toArray, List.set_cons_zero, List.set_cons_succ]
      refine wpAnyIn_ready (rs := [4]) (by kernel_rfl) (by simp) ?_
      refine AllReadyIn.cons rfl (fun K hK => ?_) AllReadyIn.nil
      refine stepIn_append _ (by rfl) _ _ 34 (by rfl) n0 46 i0 _ 5 56 Try.underlying34 hi hz hsz hby rfl (by decide) (.slice ua l1.length uc) l1.length (flatD l1) (by rfl) ((HR3.out w3 hb3).alloc _) ⟨w3.heap.size, 0, none⟩ 1 1 [.int .i64 fr, .int .i64 to, .bool ak, .int .i64 sq, .slice a3 bn c3] (by rfl) (by rfl) (World.news_of_block (cs := #[.int .i64 fr, .int .i64 to, .bool ak, .int .i64 sq, .slice a3 bn c3]) (t := 46) (fr := (0, 0)) (heap_alloc_new w3 _)) (by simp [Value.oneCell']) (by unfold maxLen; omega) (by omega) (by simp; have := hb3.size; have := hszW.out; omega) ?_
      intro v' w5 hown5 hgrow5 _ hat5
      obtain ⟨g', cap', rfl⟩ := ownsRow_succ hown5
      obtain ⟨hv1, hv2, hr2, hk2, hb2⟩ := b3.appended (by decide) (HR3.out w3 hb3) (by have := hb3.size; have := hszW.out; omega) (by omega) hown5 hgrow5
      have hc1 := hv1.cell
      have hf1 := hv1.frozen
      refine hK _ _ ?_
      clear hK K
      try simp only [Act.put, List.setIfInBounds_toArray]
      refine wpAnyIn_ready (rs := [5]) (by kernel_rfl) (by simp) ?_
      refine AllReadyIn.cons rfl (fun K hK => ?_) AllReadyIn.nil
      go_simp
      refine hK _ _ ?_
      clear hK K
      try simp only [Act.put, List.setIfInBounds_toArray, List.set_cons_zero, List.set_cons_succ]
      refine wpAnyIn_done (by kernel_rfl) ?_ _
      gi_wp2
      exact HEND.out w3 a3 c3 g' cap' w5 hb3 ho3 hown5 hgrow5
    refine AllReadyIn.cons rfl (fun K hK => ?_) AllReadyIn.nil
    go_simp
    refine ⟨trivial, ?_⟩
    gi_at_call 41
    refine (CallsIn.inRound lp (callsIn_wide.2 H41)).mono ?_
    rintro e w3 ⟨a3, c3, rfl, ho3, _, hb3⟩
    obtain ⟨b3, e3a, e3b, f3⟩ := HB3.out w3 hb3
    simp only
    refine hK _ _ ?_
    clear hK K
    try simp only [Act.put, List.setIfInBounds_toArray, List.set_cons_zero, List.set_cons_succ]
    refine wpAnyIn_ready (rs := [0, 3]) (by kernel_rfl) (by simp) ?_
    refine AllReadyIn.cons rfl (fun K hK => ?_) ?_
    · go_simp
      refine hK _ _ ?_
      clear hK K
      try simp only [Act.put, List.setIfInBounds_toArray, List.set_cons_zero, List.set_cons_succ]
      refine wpAnyIn_ready (rs := [3]) (by kernel_rfl) (by simp) ?_
      refine AllReadyIn.cons rfl (fun K hK => ?_) AllReadyIn.nil
      go_simp
      refine hK _ _ ?_
      clear hK K
      try simp only [Act.put, List.setIfInBounds_toArray, List.set_cons_zero, List.set_cons_succ]
      refine wpAnyIn_ready (rs := [4]) (by kernel_rfl) (by simp) ?_
      refine AllReadyIn.cons rfl (fun K hK => ?_) AllReadyIn.nil
      refine stepIn_append _ (by rfl) _ _ 34 (by rfl) n0 46 i0 _ 5 56 Try.underlying34 hi hz hsz hby rfl (by decide) (.slice ua l1.length uc) l1.length (flatD l1) (by rfl) ((HR3.out w3 hb3).alloc _) ⟨w3.heap.size, 0, none⟩ 1 1 [.int .i64 fr, .int .i64 to, .bool ak, .int .i64 sq, .slice a3 bn c3] (by rfl) (by rfl) (World.news_of_block (cs := #[.int .i64 fr, .int .i64 to, .bool ak, .int .i64 sq, .slice a3 bn c3]) (t := 46) (fr := (0, 0)) (heap_alloc_new w3 _)) (by simp [Value.oneCell']) (by unfold maxLen; omega) (by omega) (by simp; have := hb3.size; have := hszW.out; omega) ?_
      intro v' w5 hown5 hgrow5 _ hat5
      obtain ⟨g', cap', rfl⟩ := ownsRow_succ hown5
      obtain ⟨hv1, hv2, hr2, hk2, hb2⟩ := b3.appended (by decide) (HR3.out w3 hb3) (by have := hb3.size; have := hszW.out; omega) (by omega) hown5 hgrow5
      have hc1 := hv1.cell
      have hf1 := hv1.frozen
      refine hK _ _ ?_
      clear hK K
      try simp only [Act.put, List.setIfInBounds_toArray]
      refine wpAnyIn_ready (rs := [5]) (by kernel_rfl) (by simp) ?_
      refine AllReadyIn.cons rfl (fun K hK => ?_) AllReadyIn.nil
      go_simp
      refine hK _ _ ?_
      clear hK K
      try simp only [Act.put, List.setIfInBounds_toArray, List.set_cons_zero, List.set_cons_succ]
      refine wpAnyIn_done (by kernel_rfl) ?_ _
      gi_wp2
      exact HEND.out w3 a3 c3 g' cap' w5 hb3 ho3 hown5 hgrow5
    refine AllReadyIn.cons rfl (fun K hK => ?_) AllReadyIn.nil
    go_simp
    refine hK _ _ ?_
    clear hK K
    try simp only [Act.put, List.setIfInBounds_toArray, List.set_cons_zero, List.set_cons_succ]
    refine wpAnyIn_ready (rs := [0]) (by kernel_rfl) (by simp) ?_
    refine AllReadyIn.cons rfl (fun K hK => ?_) AllReadyIn.nil
    go_simp
    refine hK _ _ ?_
    clear hK K
    try simp only [Act.put, List.setIfInBounds_toArray, List.set_cons_zero, List.set_cons_succ]
    refine wpAnyIn_ready (rs := [4]) (by kernel_rfl) (by simp) ?_
    refine AllReadyIn.cons rfl (fun K hK => ?_) AllReadyIn.nil
    refine stepIn_append _ (by rfl) _ _ 34 (by rfl) n0 46 i0 _ 5 56 Try.underlying34 hi hz hsz hby rfl (by decide) (.slice ua l1.length uc) l1.length (flatD l1) (by rfl) ((HR3.out w3 hb3).alloc _) ⟨w3.heap.size, 0, none⟩ 1 1 [.int .i64 fr, .int .i64 to, .bool ak, .int .i64 sq, .slice a3 bn c3] (by rfl) (by rfl) (World.news_of_block (cs := #[.int .i64 fr, .int .i64 to, .bool ak, .int .i64 sq, .slice a3 bn c3]) (t := 46) (fr := (0, 0)) (heap_alloc_new w3 _)) (by simp [Value.oneCell']) (by unfold maxLen; omega) (by omega) (by simp; have := hb3.size; have := hszW.out; omega) ?_
    intro v' w5 hown5 hgrow5 _ hat5
    obtain ⟨g', cap', rfl⟩ := ownsRow_succ hown5
    obtain ⟨hv1, hv2, hr2, hk2, hb2⟩ := b3.appended (by decide) (HR3.out w3 hb3) (by have := hb3.size; have := hszW.out; omega) (by omega) hown5 hgrow5
    have hc1 := hv1.cell
    have hf1 := hv1.frozen
    refine hK _ _ ?_
    clear hK K
    try simp only [Act.put, List.setIfInBounds_toArray]
    refine wpAnyIn_ready (rs := [5]) (by kernel_rfl) (by simp) ?_
    refine AllReadyIn.cons rfl (fun K hK => ?_) AllReadyIn.nil
    go_simp
    refine hK _ _ ?_
    clear hK K
    try simp only [Act.put, List.setIfInBounds_toArray, List.set_cons_zero, List.set_cons_succ]
    refine wpAnyIn_done (by kernel_rfl) ?_ _
    gi_wp2
    exact HEND.out w3 a3 c3 g' cap' w5 hb3 ho3 hown5 hgrow5
  case done =>
    rintro D zs W hD hzs ⟨⟨ua, uc, l1, b1, r1, hl1, o1, ap1⟩, hB1⟩ hK
    have HA1 : Hid (ApL l1) := ap1
    clear ap1
    have e1 := b1.cell
    have hg := grownBy_putObj' W D (.deferred none)
    have hr : ∀ r, some D = some r → ∃ o : Obj, W.heap[r]? = some o ∧ o.isCells = false := fun r e => by cases e; exact ⟨_, hK, rfl⟩
    have HO : Hid (OwnL (W.putObj D (.deferred none)) n0 l1 cs) := by
      have h2 := ownL_cells hg hr o1
      have h3 : (zs.map fun x => csAt cs x.1) = cs := by
        have h4 := enum_cs N.l cs HH.out.own.1
        rw [← hzs, List.map_map] at h4
        exact h4
      show OwnL _ n0 l1 cs
      rw [h3] at h2
      exact h2
    have HR : Hid ((W.putObj D (.deferred none)).ownsRow n0 46 5 (.slice ua l1.length uc) l1.length (flatD l1)) := owns_cells hg hr r1
    have HBW : Hid (Below n0 w (W.putObj D (.deferred none))) := hB1.trans (belowK_b (w := W0) (by omega) W D _ _ hD hK rfl rfl)
    clear o1 r1 hg hr hl1 hzs
    gi_wp2
    refine ⟨by simp, .inl ⟨_, _, rfl, run_takeDeferred hK, ?_⟩⟩
    refine ⟨.slice ua l1.length uc, ?_, _, rfl, l1, ?_, ?_, HA1.out, ?_⟩
    · simp [results, Try.f15, go_sem]
    · rw [hn0]; exact HR.out
    · rw [hn0]; exact HO.out
    · rw [hn0]; exact HBW.out
  case stop =>
    rintro D c pre W hD hpre hF
    exact hF.elim
end Go.Proofs.Ythpbfaddojcohaa
