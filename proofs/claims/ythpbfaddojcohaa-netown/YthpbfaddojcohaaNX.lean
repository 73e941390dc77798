/- Contract of To. -/
import Derived.Test.YthpbfaddojcohaaNM
namespace Go.Proofs.Ythpbfaddojcohaa
open Go.RowKit Go.Shelf
attribute [local go_sem] Oper.semAt_some
theorem info3 : ∃ i, Try.prog.info? 3 = some i ∧ i.zero = some (.int .i64 0) ∧ i.size = 1 ∧ i.bytes = 8 := by
  have h : (Try.prog.info? 3).map (fun i => (i.zero, i.size, i.bytes)) = some (some (.int .i64 0), 1, 8) := by kernel_rfl
  cases hq : Try.prog.info? 3 with
  | none => rw [hq] at h; cases h
  | some i =>
    rw [hq] at h
    simp only [Option.map_some, Option.some.injEq, Prod.mk.injEq] at h
    exact ⟨i, rfl, h.1, h.2.1, h.2.2⟩
theorem owns_less {w : World} {A B : Nat} {e : TypeId} {s n : Nat} {v : Value} {xs : List Value} (hAB : A ≤ B) (h : w.ownsRow B e s v n xs) : w.ownsRow A e s v n xs := by
  refine ⟨h.1, ?_⟩
  rcases h.2 with h1 | ⟨g, cap, cur, h1, h2, h3⟩
  · exact .inl h1
  · exact .inr ⟨g, cap, cur, h1, Nat.le_trans hAB h2, h3⟩
/-- The numbers of those that go to a node. -/
def toP (nd : Int) (xs : List (Nat × Dg)) : List Value := (xs.filter fun x => x.2.to == nd).map fun x => .int .i64 x.1
theorem toP_length (nd : Int) (xs : List (Nat × Dg)) : (toP nd xs).length ≤ xs.length := by simpa [toP] using List.length_filter_le _ _
theorem toP_snoc (nd : Int) (xs : List (Nat × Dg)) (x : Nat × Dg) : toP nd (xs ++ [x]) = toP nd xs ++ if x.2.to = nd then [.int .i64 x.1] else [] := by
  by_cases h : x.2.to = nd <;> simp [toP, List.filter_append, h]
theorem toP_one (nd : Int) (xs : List (Nat × Dg)) : ∀ u ∈ toP nd xs, u.oneCell' = true := by
  intro u hu
  simp only [toP, List.mem_map] at hu
  obtain ⟨x, _, rfl⟩ := hu
  rfl
def ToI (n0 : Nat) (nd : Int) (N : Nt) (pre : List { x : Nat × Dg // QD N x }) (W : World) : Prop :=
  Boxed W n0 3 (.int .i64 nd) ∧ ∃ ua uc, Boxed W (n0 + 1) 67 (.slice ua (toP nd (pre.map (·.1))).length uc) ∧ W.ownsRow (n0 + 1) 3 1 (.slice ua (toP nd (pre.map (·.1))).length uc) (toP nd (pre.map (·.1))).length (toP nd (pre.map (·.1)))
theorem toI_own (n0 : Nat) (nd : Int) (N : Nt) : Own (ToI n0 nd N) := by
  rintro s A B row ⟨h0, ua, uc, h1, h2⟩ hg hr
  exact ⟨cells_kept hg hr h0, ua, uc, cells_kept hg hr h1, owns_cells hg hr h2⟩
/-- A row of the caller's own with the numbers of those that go to a node. -/
def ToPost (nd : Int) (l : List Dg) (w : World) (u : Value) (w' : World) : Prop := w'.ownsRow w.heap.size 3 1 u (toP nd (enum l)).length (toP nd (enum l)) ∧ Below w.heap.size w w'
set_option maxRecDepth 100000 in
set_option maxHeartbeats 4000000 in
theorem n26 (nb B : Nat) (v : Value) (N : Nt) (nd : Int) (w : World) (h : NtAt w nb B v N) (hl : N.l.length * 56 ≤ 140737488355328) :
    Calls Try.prog 26 #[.pointer (some ⟨nb, 0, none⟩), .int .i64 nd] w fun e w' => ∃ u, e = .returned u ∧ ToPost nd N.l w u w' := by
  refine (callsIn_wide (n := 6)).1 ?_
  obtain ⟨i0, hi, hz, hsz, hby⟩ := info3
  obtain ⟨a, c, hv⟩ := owns_slice h.own
  subst hv
  have hL0 : Below w.heap.size w ((w.alloc (.cells #[.int .i64 nd] 3)).alloc (.cells #[.slice none 0 0] 67)) := ((Below.refl _ w).alloc (Nat.le_refl _) _).alloc (by simp) _
  have H40 := n40 nb a N.l.length c ((w.alloc (.cells #[.int .i64 nd] 3)).alloc (.cells #[.slice none 0 0] 67)) (h.below hL0).cells.1
  have hrow : N.l.length = 0 ∨ ∃ g, a = some ⟨g, 0, none⟩ ∧ g < w.heap.size ∧ w.rangeAt g 0 (flatD N.l) := by
    rcases Nat.eq_zero_or_pos N.l.length with e | e
    · exact .inl e
    · obtain ⟨m, hm⟩ : ∃ m, N.l.length = m + 1 := ⟨N.l.length - 1, by omega⟩
      have ho := h.own
      have ho2 := ho
      rw [hm] at ho2
      obtain ⟨g, cap, e2⟩ := owns_some ho2
      simp only [Value.slice.injEq] at e2
      obtain ⟨rfl, _, rfl⟩ := e2
      exact .inr ⟨g, rfl, (owns_lt ho rfl).2, owns_range ho⟩
  clear h
  refine callsIn_of_wp_marks Try.func26 rfl trivial ?_ rfl
  simp only [Try.ntmps26, List.size_toArray, List.length_cons, List.length_nil, Nat.reduceAdd, Nat.reduceSub, Array.replicate_succ, Array.replicate_zero, List.push_toArray, List.append_toArray, List.nil_append, List.cons_append]
  gi_wp2_with (refine ⟨trivial, ?_⟩; gi_at_call 40; refine (callsIn_wide.2 H40).mono ?_; rintro e w' ⟨rfl, rfl⟩)
  have bN := ((Boxed.new w 3 (.int .i64 nd)).alloc (.cells #[.slice none 0 0] 67)).alloc (.cells #[.slice a N.l.length c] 34)
  have bL := (Boxed.new (w.alloc (.cells #[.int .i64 nd] 3)) 67 (.slice none 0 0)).alloc (.cells #[.slice a N.l.length c] 34)
  have bS := Boxed.new ((w.alloc (.cells #[.int .i64 nd] 3)).alloc (.cells #[.slice none 0 0] 67)) 34 (.slice a N.l.length c)
  simp only [World.size_alloc] at bS bL
  have hB0 : Below w.heap.size w (((w.alloc (.cells #[.int .i64 nd] 3)).alloc (.cells #[.slice none 0 0] 67)).alloc (.cells #[.slice a N.l.length c] 34)) := hL0.alloc (by simp; omega) _
  have hs0 : (((w.alloc (.cells #[.int .i64 nd] 3)).alloc (.cells #[.slice none 0 0] 67)).alloc (.cells #[.slice a N.l.length c] 34)).heap.size = w.heap.size + 3 := by simp
  obtain ⟨W0, hW0⟩ : ∃ W0, (((w.alloc (.cells #[.int .i64 nd] 3)).alloc (.cells #[.slice none 0 0] 67)).alloc (.cells #[.slice a N.l.length c] 34)) = W0 := ⟨_, rfl⟩
  rw [hW0] at bN bL bS hB0 hs0 ⊢
  clear hW0 H40 hL0
  obtain ⟨n0, hn0⟩ : ∃ n0, w.heap.size = n0 := ⟨_, rfl⟩
  have HST := all_stopsQ (QD N) 5 (by decide) (w.heap.size + 2) N.l a c w W0 (by omega) hB0 bS.cell (by unfold maxLen; omega) hrow (fun x hx => enum_mem hx)
  rw [hn0] at bN bL bS hB0 hs0 HST ⊢
  refine wpIn_rangeFunc_ownH rfl (by decide) (gf := 65) (lb := #[.pointer (some ⟨n0 + 2, 0, none⟩)]) rfl trivial (enters_of Try.func65 (by kernel_rfl) rfl)
    HST belowK_t (belowK_b (by omega)) (Below.refl _ _) (fun _ => rfl)
    (fun pre W => ToI n0 nd N pre W ∧ Below n0 w W)
    (fun _ _ _ => False)
    (OwnFrom.and (Own.from (toI_own n0 nd N) _) (ownFrom_below (by omega) (by omega)))
    (fun _ _ _ _ _ hs _ _ => hs)
    ⟨⟨bN, none, 0, bL, World.ownsRow_nil _ _ _ _⟩, hB0⟩
    (fun x a' W => ∃ Bx, n0 + 1 < Bx ∧ W.heap[Bx]? = some (.cells #[.int .i64 x.1.2.fr, .int .i64 x.1.2.to, .bool x.1.2.ak, .int .i64 x.1.2.sq, .slice x.1.2.ba x.1.2.bn x.1.2.bc] 46 (0, 0)) ∧ a' = { tmps := #[.pointer (some ⟨nb, 0, none⟩), .int .i64 nd, undef, .pointer (some ⟨n0, 0, none⟩), .slice none 0 0, .pointer (some ⟨n0 + 1, 0, none⟩), .int .i64 x.1.1, .pointer (some ⟨Bx, 0, none⟩), .pointer (some ⟨nb, 0, none⟩), .bool false, .pointer (some ⟨nb, 0, none⟩), .pointer (some ⟨nb, 0, none⟩), .pointer (some ⟨nb, 0, none⟩), .func (.func 65) #[] #[.pointer (some ⟨n0 + 2, 0, none⟩)], .int .i64 x.1.1, .agg #[.int .i64 x.1.2.fr, .int .i64 x.1.2.to, .bool x.1.2.ak, .int .i64 x.1.2.sq, .slice x.1.2.ba x.1.2.bn x.1.2.bc], undef, undef, undef, undef, undef, undef, undef, undef, undef], defers := [] })
    (fun x a' _ X Y row hs hg hr => by obtain ⟨Bx, h1, h2, h3⟩ := hs; exact ⟨Bx, h1, cells_kept hg (fun r e => (hr r e).2) h2, h3⟩)
    ?assign ?body ?done ?stop
  case assign =>
    rintro lp pre x W K ⟨⟨h0, ua, uc, h1, h2⟩, hB1⟩ hK
    gi_wp2
    have hbw : Below W.heap.size W (W.alloc (.cells #[.int .i64 x.1.2.fr, .int .i64 x.1.2.to, .bool x.1.2.ak, .int .i64 x.1.2.sq, .slice x.1.2.ba x.1.2.bn x.1.2.bc] 46)) := (Below.refl _ W).alloc (Nat.le_refl _) _
    have hsz := hB1.size
    exact hK _ _ ((KeepsOthers.alloc _ _).from _) (hbw.mono (by omega)) ⟨⟨h0.alloc _, ua, uc, h1.alloc _, h2.alloc _⟩, hB1.alloc (by omega) _⟩ ⟨W.heap.size, by have := h1.lt; omega, heap_alloc_new W _, rfl⟩
  case body =>
    rintro lp pre ⟨⟨xi, fr, to, ak, sq, ba, bn, bc⟩, hxi, hxd⟩ a' W hlp ⟨r, hr⟩ ⟨⟨bN, ua, uc, bU, rU⟩, hB1⟩ ⟨Bx, hBx, bX, rfl⟩ hlt
    have hszn : n0 + 1 ≤ W.heap.size := by have := bU.lt; omega
    have x1 : W.cell? ⟨Bx, 1, none⟩ = some (.int .i64 to) := by rw [cell_of_row W Bx 1 _ 46 (0, 0) bX]; rfl
    have eU := bU.cell
    have eN := bN.cell
    have hm : (toP nd (pre.map (·.1))).length ≤ pre.length := by simpa using toP_length nd (pre.map (·.1))
    have HS : Hid (toP nd ((pre ++ [(⟨(xi, ⟨fr, to, ak, sq, ba, bn, bc⟩), hxi, hxd⟩ : { x : Nat × Dg // QD N x })]).map (·.1)) = toP nd (pre.map (·.1)) ++ if to = nd then [.int .i64 xi] else []) := by
      show toP _ _ = _
      rw [List.map_append]
      exact toP_snoc nd _ _
    have HL : Hid (pre.length < N.l.length) := hlt
    generalize hQ : toP nd (pre.map (·.1)) = ys at *
    clear hQ
    by_cases hto : to = nd
    · have HT : Hid (to = nd) := hto
      have hto' : (to == nd) = true := by simp [hto]
      clear hto
      gi_wp2_with (first
        | (gi_at_builtin; refine wpListIn_append_own _ rfl _ _ 67 rfl (n0 + 1) 3 i0 (.int .i64 0) 1 8 Try.underlying67 hi hz hsz hby rfl (by decide) _ _ _ rfl (rU.alloc _) ⟨W.heap.size, 0, none⟩ 1 1 [.int .i64 xi] rfl rfl (World.news_of_block (cs := #[.int .i64 xi]) (t := 3) (fr := (0, 0)) (heap_alloc_new W _)) (by simp [Value.oneCell']) (by unfold maxLen; omega) (by omega) (by simp; omega) ?_; intro v' w2 hown' hgrow2 _
           obtain ⟨g', cap', rfl⟩ := ownsRow_succ hown'
           obtain ⟨hv1, hv2, hr2, hk2, hb2⟩ := bU.appended (by decide) rU hszn (Nat.le_refl _) hown' hgrow2
           have bN2 := ((bN.alloc _).kept hgrow2 (fun e => by have := (owns_lt rU e.symm).1; omega))
           have hc1 := hv1.cell
           have hf1 := hv1.frozen))
      have hb3 := hb2.mono (Nat.le_succ n0)
      refine ⟨hk2.from _, hb3, ⟨bN2.other (by omega) _, some ⟨g', 0, none⟩, cap', ?_, ?_⟩, hB1.trans hb3⟩
      · rw [HS.out, if_pos HT.out, List.length_append]; exact hv2
      · rw [HS.out, if_pos HT.out, List.length_append]; exact hr2
    · have HT : Hid (¬ to = nd) := hto
      have hto' : (to == nd) = false := by simp [hto]
      gi_wp2
      refine ⟨(KeepsOthers.refl _).from _, Below.refl _ _, ⟨bN, ua, uc, ?_, ?_⟩, hB1⟩
      · rw [HS.out, if_neg HT.out, List.append_nil]; exact bU
      · rw [HS.out, if_neg HT.out, List.append_nil]; exact rU
  case done =>
    rintro D zs W hD hzs ⟨⟨bN, ua, uc, b1, r1⟩, hB1⟩ hK
    have e1 := b1.cell
    have hg := grownBy_putObj' W D (.deferred none)
    have hr : ∀ r, some D = some r → ∃ o : Obj, W.heap[r]? = some o ∧ o.isCells = false := fun r e => by cases e; exact ⟨_, hK, rfl⟩
    rw [hzs] at r1 b1 e1
    have HR : Hid ((W.putObj D (.deferred none)).ownsRow (n0 + 1) 3 1 (.slice ua (toP nd (enum N.l)).length uc) (toP nd (enum N.l)).length (toP nd (enum N.l))) := owns_cells hg hr r1
    have HBW : Hid (Below n0 w (W.putObj D (.deferred none))) := hB1.trans (belowK_b (w := W0) (by omega) W D _ _ hD hK rfl rfl)
    clear r1 hg hr hzs
    gi_wp2
    refine ⟨by simp, .inl ⟨_, _, rfl, run_takeDeferred hK, ?_⟩⟩
    refine ⟨.slice ua (toP nd (enum N.l)).length uc, ?_, _, rfl, ?_, ?_⟩
    · simp [results, Try.f26, go_sem]
    · rw [hn0]; exact owns_less (Nat.le_succ _) HR.out
    · rw [hn0]; exact HBW.out
  case stop =>
    rintro D c pre W hD hpre hF
    exact hF.elim
end Go.Proofs.Ythpbfaddojcohaa
