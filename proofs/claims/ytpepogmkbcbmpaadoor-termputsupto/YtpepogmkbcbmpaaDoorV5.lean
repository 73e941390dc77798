/- Contract of Vars: each name once, in the order in which they first come. -/
import Derived.Test.YtpepogmkbcbmpaaDoorN2
import Derived.Maps.OwnIn
import Derived.Maps.Views
import Derived.DeepKeys4
namespace Go.Proofs.YtpepogmkbcbmpaaDoor
open Go.RowKit Go.Shelf
attribute [local go_sem] Oper.semAt_some
def wfN (x : Nm) : Prop := (Lit.int .i64 x.1).wf = true ∧ (Lit.int .i64 x.2).wf = true
def kLit (x : Nm) : Lit := .string (keyBytes [.int .i64 x.1, .int .i64 x.2])
theorem law23 : WideMaps.KeyLaw Tryd.prog 23 := deep_law_laid (by kernel_rfl) (m := 2) (by omega) (of_decide_eq_true (by kernel_rfl)) (by kernel_rfl) (by rw [Tryd.underlying23])
theorem keyed23 : Maps.Keyed Tryd.prog 23 := Maps.Keyed.of_law law23
theorem key23 (x : Nm) (h : wfN x) : keyOf Tryd.prog 23 (.agg #[.int .i64 x.1, .int .i64 x.2]) = some (kLit x) := by
  obtain ⟨h1, h2⟩ := h
  have hk : Tryd.prog.keyType 23 = true := by kernel_rfl
  have hc : Tryd.prog.cellsOf 23 = 2 := by kernel_rfl
  have hc3 : Tryd.prog.cellsOf 3 = 1 := by kernel_rfl
  have hs : ∃ n, Tryd.prog.types.size = n + 1 := ⟨Tryd.prog.types.size - 1, by have : 0 < Tryd.prog.types.size := of_decide_eq_true (by kernel_rfl); omega⟩
  obtain ⟨n, hs⟩ := hs
  have hf : (Value.agg #[.int .i64 x.1, .int .i64 x.2]).formed Tryd.prog 23 = true := by simp [Value.formed, Tryd.underlying23, hc]
  unfold keyOf
  rw [Tryd.underlying23]
  simp only [hk, hf, Bool.and_self, if_true, hs]
  simp [Program.keyLits, Tryd.underlying23, Tryd.underlying3, hc, hc3, Value.cells, h1, h2, kLit]
theorem kLit_inj {x y : Nm} (hx : wfN x) (hy : wfN y) (h : kLit x = kLit y) : x = y := by
  have h1 := key23 x hx
  have h2 := key23 y hy
  rw [← h] at h2
  have h3 := law23.inj h1 h2
  simp at h3
  exact Prod.ext h3.1 h3.2
def setD (l : List Nm) : DataW Unit := Maps.setOf (.agg []) (l.map kLit)
theorem has_setD (l : List Nm) (x : Nm) (hl : ∀ y ∈ l, wfN y) (hx : wfN x) : Maps.has (setD l) (kLit x) = hasN l x := by
  unfold setD
  rw [Maps.has_setOf _ _ _ (fun y hy => by obtain ⟨z, hz, rfl⟩ := List.mem_map.1 hy; exact keyed23.key (key23 z (hl z hz)))]
  rw [Bool.eq_iff_iff, hasN_iff, List.any_eq_true]
  constructor
  · rintro ⟨y, hy, h⟩
    obtain ⟨z, hz, rfl⟩ := List.mem_map.1 hy
    have := kLit_inj (hl z hz) hx (WideAt.sameKey_eq h)
    subst this; exact hz
  · intro h
    exact ⟨kLit x, List.mem_map.2 ⟨x, h, rfl⟩, WideAt.sameKey_self (keyed23.key (key23 x hx))⟩
theorem setD_snoc (l : List Nm) (x : Nm) : setD (l ++ [x]) = (setD l).put (kLit x) (.agg []) := by
  unfold setD; rw [List.map_append, List.map_singleton, Maps.setOf_snoc]
theorem addN_mem (acc : List Nm) (x y : Nm) (h : y ∈ addN acc x) : y ∈ acc ∨ y = x := by
  unfold addN at h
  split at h
  · exact .inl h
  · rcases List.mem_append.1 h with h | h
    · exact .inl h
    · exact .inr (by simpa using h)
theorem foldN_mem (xs acc : List Nm) (y : Nm) (h : y ∈ xs.foldl addN acc) : y ∈ acc ∨ y ∈ xs := by
  induction xs generalizing acc with
  | nil => exact .inl h
  | cons a r ih =>
    rcases ih (addN acc a) h with h | h
    · rcases addN_mem _ _ _ h with h | h
      · exact .inl h
      · exact .inr (by simp [h])
    · exact .inr (by simp [h])
theorem nubN_mem (xs : List Nm) (y : Nm) (h : y ∈ nubN xs) : y ∈ xs := by
  rcases foldN_mem xs [] y h with h | h
  · simp at h
  · exact h
theorem zero74 (w : World) : (zeroValue 74).run Tryd.prog w = .ok (.agg #[]) w := by kernel_rfl
abbrev WN := { x : Nm // wfN x }
def nubP (pre : List WN) : List Nm := nubN (pre.map (·.1))
theorem nubP_snoc (pre : List WN) (x : WN) : nubP (pre ++ [x]) = addN (nubP pre) x.1 := by
  unfold nubP; rw [List.map_append, List.map_singleton, nubN_snoc]
theorem nubP_wf (pre : List WN) : ∀ y ∈ nubP pre, wfN y := by
  intro y hy
  obtain ⟨z, hz, rfl⟩ := List.mem_map.1 (nubN_mem _ _ hy)
  exact z.2
theorem row_not_map {w : World} {base : Nat} {e : TypeId} {s n m b : Nat} {v : Value} {xs : List Value} {P : Program} {k : TypeId} {D : DataW Unit} (h : w.ownsRow base e s v n xs) (hm : w.ownsMap P k unitElem b m D) : v.ownBlock ≠ some b := by
  obtain ⟨es, ck, hh, _⟩ := hm
  rcases h.2 with ⟨rfl, _⟩ | ⟨g, cap, cur, rfl, _, hg, _⟩
  · simp [Value.ownBlock]
  · intro e1
    simp [Value.ownBlock] at e1
    subst e1
    rw [hh] at hg; cases hg
theorem map_keeps {w w' : World} {m b : Nat} {P : Program} {k : TypeId} {D : DataW Unit} (hm : w.ownsMap P k unitElem b m D) (hk : KeepsOthers w w') : w'.ownsMap P k unitElem b m D := by
  obtain ⟨es, ck, hh, h⟩ := hm
  exact ⟨es, ck, hk.same _ _ hh rfl, h⟩
set_option maxRecDepth 100000 in
set_option maxHeartbeats 4000000 in
theorem c34 (ls : List (List C)) (v : Value) (w : World) (hR : RowAt w v ls) (hT : (varsAll ls).length ≤ 1000000000000) (hW : ∀ x ∈ varsAll ls, wfN x) :
    Calls Tryd.prog 34 #[v] w fun e w' => ∃ u, e = .returned u ∧ OwnN w' w.heap.size u (nubN (varsAll ls)) ∧ Below w.heap.size w w' := by
  refine (callsIn_wide (n := 6)).1 ?_
  have HRow : Hid (RowAt w v ls) := hR
  obtain ⟨ad, cap, hv⟩ := hR.form
  subst hv
  obtain ⟨i0, hi, hz, hs, hby⟩ := info23
  have hmm := @run_makeMap Tryd.prog
  clear hR
  refine callsIn_of_wp_marks Tryd.func34 rfl trivial ?_ rfl
  simp only [Tryd.ntmps34, List.size_toArray, List.length_cons, List.length_nil, Nat.reduceAdd, Nat.reduceSub, Array.replicate_succ, Array.replicate_zero, List.push_toArray, List.append_toArray, List.nil_append, List.cons_append]
  gi_wp2_with (refine ⟨trivial, ?_⟩; gi_at_call 57; refine (variables_in Fence.wide _ trivial rfl _ _ ⟨_, _, _, rfl⟩).mono ?_; rintro e w' ⟨rfl, rfl⟩)
  have bN := (((Boxed.new w 51 (.slice none 0 0)).alloc (.map #[] 0)).alloc (.cells #[.map (some (w.heap.size + 1))] 70)).alloc (.cells #[.slice ad ls.length cap] 24)
  have mM := ((World.ownsMap_made (w.alloc (.cells #[.slice none 0 0] 51)) Tryd.prog 23 (unitElem (H := Unit))).alloc (.cells #[.map (some (w.heap.size + 1))] 70)).alloc (.cells #[.slice ad ls.length cap] 24)
  have bM := (Boxed.new ((w.alloc (.cells #[.slice none 0 0] 51)).alloc (.map #[] 0)) 70 (.map (some (w.heap.size + 1)))).alloc (.cells #[.slice ad ls.length cap] 24)
  have bL := Boxed.new (((w.alloc (.cells #[.slice none 0 0] 51)).alloc (.map #[] 0)).alloc (.cells #[.map (some (w.heap.size + 1))] 70)) 24 (.slice ad ls.length cap)
  simp only [World.size_alloc] at mM bM bL
  have hB0 : Below w.heap.size w ((((w.alloc (.cells #[.slice none 0 0] 51)).alloc (.map #[] 0)).alloc (.cells #[.map (some (w.heap.size + 1))] 70)).alloc (.cells #[.slice ad ls.length cap] 24)) := ((((Below.refl _ w).alloc (Nat.le_refl _) _).alloc (by simp) _).alloc (by simp; omega) _).alloc (by simp; omega) _
  have hsz : ((((w.alloc (.cells #[.slice none 0 0] 51)).alloc (.map #[] 0)).alloc (.cells #[.map (some (w.heap.size + 1))] 70)).alloc (.cells #[.slice ad ls.length cap] 24)).heap.size = w.heap.size + 4 := by simp
  obtain ⟨W0, hW0⟩ : ∃ W0, ((((w.alloc (.cells #[.slice none 0 0] 51)).alloc (.map #[] 0)).alloc (.cells #[.map (some (w.heap.size + 1))] 70)).alloc (.cells #[.slice ad ls.length cap] 24)) = W0 := ⟨_, rfl⟩
  rw [hW0] at bN mM bM bL hB0 hsz ⊢
  clear hW0 hmm
  refine wpIn_rangeFunc_ownH rfl (by decide) (gf := 66) (lb := #[.pointer (some ⟨w.heap.size + 1 + 1 + 1, 0, none⟩)]) rfl trivial (enters_of Tryd.func66 (by kernel_rfl) rfl)
    (vars_stops Fence.wide 5 trivial rfl (by decide) wfN (w.heap.size + 1 + 1 + 1) ls _ w W0 (by omega) hB0 bL.cell HRow.out hW) belowK_t (belowK_b (by omega)) (Below.refl _ _) (fun _ => rfl)
    (fun pre W => ((∃ v, Boxed W w.heap.size 51 v ∧ W.ownsRow w.heap.size 23 2 v (nubP pre).length (flatN (nubP pre)) ∧ True) ∧ (Boxed W (w.heap.size + 1 + 1) 70 (.map (some (w.heap.size + 1))) ∧ W.ownsMap Tryd.prog 23 (unitElem (H := Unit)) (w.heap.size + 1) pre.length (setD (nubP pre)))) ∧ Below w.heap.size w W)
    (fun _ _ _ => False)
    (OwnFrom.and (OwnFrom.and (Own.from (holdsRow_own w.heap.size w.heap.size 51 23 2 (fun pre => (nubP pre).length) (fun pre => flatN (nubP pre)) (fun _ _ => True)) _) (fun s A B row hs hg hr => ⟨boxed_own (w.heap.size + 1 + 1) 70 (fun (_ : Unit) => Value.map (some (w.heap.size + 1))) () A B row hs.1 hg (fun r e => (hr r e).2), hs.2.kept hg (fun e => by have := (hr _ e.symm).1; omega)⟩)) (ownFrom_below (Nat.le_refl _) (by omega)))
    (fun _ _ _ _ _ hs _ _ => hs)
    ⟨⟨⟨_, bN, World.ownsRow_nil _ _ _ _, trivial⟩, bM, mM⟩, hB0⟩
    (fun x a' W => ∃ Bx, Pair W Bx 23 x.1.1 x.1.2 ∧ a' = { tmps := #[.slice ad ls.length cap, undef, .slice none 0 0, .pointer (some ⟨w.heap.size, 0, none⟩), .pointer (some ⟨w.heap.size + 1 + 1, 0, none⟩), .pointer (some ⟨Bx, 0, none⟩), undef, undef, .map (some (w.heap.size + 1)), .slice ad ls.length cap, .func (.func 66) #[] #[.pointer (some ⟨w.heap.size + 1 + 1 + 1, 0, none⟩)], .agg #[.int .i64 x.1.1, .int .i64 x.1.2], undef, undef, undef, undef, undef, undef, undef, undef, undef, undef, undef, undef, undef, undef, undef, undef], defers := [] })
    (fun x a' _ X Y row hs hg hr => by obtain ⟨Bx, h2, h3⟩ := hs; exact ⟨Bx, h2.kept hg (fun r e => (hr r e).2), h3⟩)
    ?assign ?body ?done ?stop
  case assign =>
    rintro lp pre x W K ⟨⟨⟨v1, b1, r1, _⟩, b2, m2⟩, hB1⟩ hK
    gi_wp2
    exact hK _ _ ((KeepsOthers.alloc _ _).from _) ((Below.refl _ W).alloc hB1.size _) ⟨⟨⟨v1, b1.alloc _, r1.alloc _, trivial⟩, b2.alloc _, m2.alloc _⟩, hB1.alloc hB1.size _⟩ ⟨W.heap.size, Pair.new W 23 _ _, rfl⟩
  case body =>
    rintro lp pre x a' W hl ⟨r, hr⟩ ⟨⟨⟨v1, b1, r1, _⟩, b2, m2⟩, hB1⟩ ⟨Bx, bX, rfl⟩ hlt
    have hlen : (nubP pre).length ≤ pre.length := by
      have := nubN_len (pre.map (·.1)); simpa [nubP] using this
    have hhas := has_setD (nubP pre) x.1 (nubP_wf pre) x.2
    have hkey := key23 x.1 x.2
    have hsn := nubP_snoc pre x
    have bX1 : Pair (W.alloc (.cells #[] 74)) Bx 23 x.1.1 x.1.2 := bX.kept (World.grownBy_alloc W _ none) (fun r e => by cases e)
    have b1a := b1.alloc (.cells #[] 74)
    have b2a := b2.alloc (.cells #[] 74)
    have r1a := r1.alloc (.cells #[] 74)
    have m2a := m2.alloc (.cells #[] 74)
    have cM := b2.cell
    have cX0 := bX.cell0
    have cX1 := bX.cell1
    have dM := b2a.cell
    have dX0 := bX1.cell0
    have dX1 := bX1.cell1
    have hBa : Below w.heap.size W (W.alloc (.cells #[] 74)) := (Below.refl _ W).alloc hB1.size _
    have hKa : KeepsFrom W0.heap.size W (W.alloc (.cells #[] 74)) := (KeepsOthers.alloc _ _).from _
    have hp63 : pre.length ≤ 1000000000000 := by omega
    clear hr
    cases hh : hasN (nubP pre) x.1
    · rw [hh] at hhas
      have hE : nubP (pre ++ [x]) = nubP pre ++ [x.1] := by rw [hsn]; unfold addN; rw [hh]; rfl
      have HE : Hid (nubP (pre ++ [x]) = nubP pre ++ [x.1]) := hE
      clear hE hsn hh
      gi_wp2_with (first
        | (gi_at_lookup; refine wpListIn_lookup_own_unit _ rfl _ _ 70 rfl 23 74 keyed23 Tryd.underlying70 (zero74 _) (w.heap.size + 1) pre.length _ rfl m2 _ _ rfl hkey ?_; rw [hhas])
        | (gi_at_mapUpdate; refine wpListIn_mapUpdate_own _ rfl _ _ _ 70 rfl 23 74 keyed23 Tryd.underlying70 _ (w.heap.size + 1) pre.length _ rfl m2a (by unfold maxLen; omega) _ _ _ rfl rfl hkey (.agg []) [] unitElem_mk ?_; intro w1 hown1 hgrow1
           have b1b := b1a.kept hgrow1 (by simp)
           have b2b := b2a.kept hgrow1 (by simp)
           have hmb : ∃ o : Obj, (W.alloc (.cells #[] 74)).heap[w.heap.size + 1]? = some o ∧ o.isCells = false := (by obtain ⟨es, ck, hh, _⟩ := m2a; exact ⟨_, hh, rfl⟩)
           have bXb := bX1.kept hgrow1 (fun r e => by cases e; exact hmb)
           have r1b := r1a.kept hgrow1 (.inr (row_not_map r1a m2a))
           have hBb := hBa.grown hgrow1 (by have := hB1.size; simp; omega) (fun k e => by cases e; exact Nat.le_succ _)
           have hKb := hKa.trans (KeepsFrom.of_grownBy hgrow1 (fun j e => by cases e; omega))
           have eN := b1b.cell
           have eX0 := bXb.cell0
           have eX1 := bXb.cell1
           have hszb := hBb.size
           have hszc : w.heap.size ≤ w1.heap.size := Nat.le_trans hB1.size hszb)
        | (gi_at_builtin; refine wpListIn_append_own _ rfl _ _ 51 rfl w.heap.size 23 i0 (.agg #[.int .i64 0, .int .i64 0]) 2 16 Tryd.underlying51 hi hz hs hby rfl (by decide) _ _ _ rfl (r1b.alloc _) ⟨w1.heap.size, 0, none⟩ 1 1 (flatN [x.1]) rfl rfl (newsN_new w1 x.1) (flatN_one _) (by unfold maxLen; omega) (by omega) (by simp; omega) ?_; intro v' w2 hown' hgrow2 _
           obtain ⟨g', cap', rfl⟩ := ownsRow_succ hown'
           obtain ⟨hv1, hv2, hr2, hk2, hb2⟩ := b1b.appended (by decide) r1b hszc (Nat.le_refl _) hown' hgrow2
           have b2c := ((b2b.alloc _).kept hgrow2 (b2b.not_row (by decide) r1b))
           have hc1 := hv1.cell
           have hf1 := hv1.frozen))
      refine ⟨hKb.trans (hk2.from _), hBb.trans hb2, ⟨⟨_, hv2, ?_, trivial⟩, b2c.other (by omega) _, ?_⟩, hB1.trans (hBb.trans hb2)⟩
      · rw [HE.out, flatN_append, List.length_append]; exact hr2
      · rw [HE.out, setD_snoc, List.length_append]; exact map_keeps hown1 hk2
    · rw [hh] at hhas
      have hE : nubP (pre ++ [x]) = nubP pre := by rw [hsn]; unfold addN; rw [hh]; rfl
      have HE : Hid (nubP (pre ++ [x]) = nubP pre) := hE
      clear hE hsn hh
      gi_wp2_with (gi_at_lookup; refine wpListIn_lookup_own_unit _ rfl _ _ 70 rfl 23 74 keyed23 Tryd.underlying70 (zero74 _) (w.heap.size + 1) pre.length _ rfl m2 _ _ rfl hkey ?_; rw [hhas])
      refine ⟨hKa, hBa, ⟨⟨v1, b1a, ?_, trivial⟩, b2a, ?_⟩, hB1.trans hBa⟩
      · rw [HE.out]; exact r1a
      · rw [HE.out]; exact m2a.mono (by simp)
  case done =>
    rintro D zs W hD hzs ⟨⟨⟨v1, b1, r1, _⟩, b2, m2⟩, hB1⟩ hK
    have hc := b1.cell
    have hE : nubP zs = nubN (varsAll ls) := by unfold nubP; rw [hzs]
    gi_wp2
    refine ⟨by simp, .inl ⟨_, _, rfl, run_takeDeferred hK, ?_⟩⟩
    exact ⟨_, results_tmp rfl _ _ _, v1, rfl, by show World.ownsRow _ _ _ _ _ _ _; rw [← hE]; exact ownsRow_putObj r1 _ hK rfl, hB1.trans (belowK_b (w := w) (Nat.le_refl _) W D _ _ (by omega) hK rfl rfl)⟩
  case stop =>
    rintro D c pre W _ _ h _
    exact h.elim
end Go.Proofs.YtpepogmkbcbmpaaDoor
