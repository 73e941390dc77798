/- Contracts of load and Open. -/
import Derived.Test.YtopljcabcknaeaaJJ
namespace Go.Proofs.Ytopljcabcknaeaa
open Go.RowKit Go.Shelf
attribute [local go_sem] Oper.semAt_some
/-- How far load has come. -/
def LdI (n0 lb Bs : Nat) (a : Option Addr) (m c : Nat) (xs : List Int) (w : World) (pre : List (Nat × List Int)) (W : World) : Prop :=
  W.heap[n0]? = some (.cells #[.pointer (some ⟨lb, 0, none⟩)] 66 (0, 0)) ∧ W.heap[lb]? = some (.cells #[.slice a m c, .int .i64 pre.length, .int .i64 (lastE pre)] 46 (0, 0)) ∧
  W.heap[Bs]? = some (.cells #[.slice a m c] 29 (0, 0)) ∧ Row W n0 5 a m c (u8s xs) ∧ KeepL lb none w W
theorem ldI_own (n0 lb Bs : Nat) (a : Option Addr) (m c : Nat) (xs : List Int) (w : World) (B : Nat) (hB : w.heap.size ≤ B) : OwnFrom B (LdI n0 lb Bs a m c xs w) := by
  rintro s X Y row ⟨h1, h2, h3, h4, h5⟩ hg hr
  have hr2 : ∀ r, row = some r → ∃ o : Obj, X.heap[r]? = some o ∧ o.isCells = false := fun r e => (hr r e).2
  refine ⟨cells_kept hg hr2 h1, cells_kept hg hr2 h2, cells_kept hg hr2 h3, h4.cells hg hr2, hg.os.trans h5.os, hg.tape.trans h5.tape, hg.output.trans h5.output, Nat.le_trans h5.size hg.size, fun k hk h6 h7 => ?_⟩
  exact (hg.block k (Nat.lt_of_lt_of_le hk h5.size) (fun e => by have := (hr k e.symm).1; omega)).trans (h5.block k hk h6 h7)
set_option maxRecDepth 100000 in
set_option maxHeartbeats 8000000 in
theorem j47 (lb : Nat) (a : Option Addr) (m c : Nat) (xs : List Int) (w : World) (hL : w.heap[lb]? = some (.cells #[.slice none 0 0, .int .i64 0, .int .i64 0] 46 (0, 0))) (h : By w a m c xs) (hm : m ≤ 1000000000) :
    Calls Try.prog 19 #[.pointer (some ⟨lb, 0, none⟩), .slice a m c] w fun e w' => e = .returned (.tuple #[]) ∧ ∃ s, s.n = m ∧ LogAt w' lb w.heap.size s xs ∧ KeepL lb none w w' := by
  refine (callsIn_wide (n := 6)).1 ?_
  have HH : Hid (By w a m c xs) := h
  have HLN : Hid (xs.length = m) := h.len
  have hlb : lb < w.heap.size := (Array.getElem?_eq_some_iff.1 hL).1
  obtain ⟨n0, hn0⟩ : ∃ n0, w.heap.size = n0 := ⟨_, rfl⟩
  obtain ⟨W0, hW0⟩ : ∃ W0, w.alloc (.cells #[.pointer (some ⟨lb, 0, none⟩)] 66) = W0 := ⟨_, rfl⟩
  have hb0 : Below w.heap.size w W0 := by rw [← hW0]; exact (Below.refl _ w).alloc (Nat.le_refl _) _
  have hs0 : W0.heap.size = n0 + 1 := by rw [← hW0, ← hn0]; simp
  have bP : W0.heap[n0]? = some (.cells #[.pointer (some ⟨lb, 0, none⟩)] 66 (0, 0)) := by rw [← hW0, ← hn0]; exact heap_alloc_new w _
  have bL : W0.heap[lb]? = some (.cells #[.slice none 0 0, .int .i64 0, .int .i64 0] 46 (0, 0)) := (hb0.block lb hlb).trans hL
  have H40 : Calls Try.prog 18 #[.slice a m c] W0.drew fun e w' => ∃ a' c', e = .returned (.slice a' m c') ∧ Hid (Fresh W0.drew a' m c' xs w') := by
    refine (j40 a m c xs W0.drew ((h.below hb0).below (Below.drew (Below.refl _ _))) (by omega)).mono ?_
    rintro e w' ⟨a', c', rfl, hf⟩
    exact ⟨a', c', rfl, hf⟩
  have e0 : W0.cell? ⟨n0, 0, none⟩ = some (.pointer (some ⟨lb, 0, none⟩)) := Boxed.cell (t := 66) bP
  have HQ : Hid (∀ (w3 : World) (a' : Option Addr) (c' : Nat), Hid (Fresh W0.drew a' m c' xs w3) → w3.cell? ⟨n0, 0, none⟩ = some (.pointer (some ⟨lb, 0, none⟩)) ∧ w3.cell? ⟨lb, 0, none⟩ = some (.slice none 0 0) ∧ w3.frozen? ⟨lb, 0, none⟩ = false) := fun w3 a' c' hf => by
    have e1 : w3.heap[n0]? = some (.cells #[.pointer (some ⟨lb, 0, none⟩)] 66 (0, 0)) := (hf.out.2.block n0 (show n0 < W0.heap.size by omega)).trans bP
    have e2 : w3.heap[lb]? = some (.cells #[.slice none 0 0, .int .i64 0, .int .i64 0] 46 (0, 0)) := (hf.out.2.block lb (show lb < W0.heap.size by omega)).trans bL
    exact ⟨Boxed.cell (t := 66) e1, by rw [cell_of_row w3 lb 0 _ 46 (0, 0) e2]; rfl, frozen_of_row w3 lb 0 _ 46 e2⟩
  refine callsIn_of_wp_marks Try.func19 rfl trivial ?_ rfl
  simp only [Try.ntmps19, List.size_toArray, List.length_cons, List.length_nil, Nat.reduceAdd, Nat.reduceSub, Array.replicate_succ, Array.replicate_zero, List.push_toArray, List.append_toArray, List.nil_append, List.cons_append]
  have mixed : Try.prog.follows Departure.mixedOrders = true := by kernel_rfl
  have HT : Hid (∀ (w3 : World) (a' : Option Addr) (c' : Nat), Hid (Fresh W0.drew a' m c' xs w3) → ∃ W4, w3.setCell ⟨lb, 0, none⟩ (.slice a' m c') = W4 ∧ W4.cell? ⟨n0, 0, none⟩ = some (.pointer (some ⟨lb, 0, none⟩)) ∧ W4.cell? ⟨lb, 0, none⟩ = some (.slice a' m c') ∧ Hid (By W4 a' m c' xs ∧ c' ≤ maxLen ∧ n0 + 1 ≤ W4.heap.size ∧ LdI n0 lb W4.heap.size a' m c' xs w [] (W4.alloc (.cells #[.slice a' m c'] 29)))) := fun w3 a' c' hf => by
    have e1 : w3.heap[n0]? = some (.cells #[.pointer (some ⟨lb, 0, none⟩)] 66 (0, 0)) := (hf.out.2.block n0 (show n0 < W0.heap.size by omega)).trans bP
    have e2 : w3.heap[lb]? = some (.cells #[.slice none 0 0, .int .i64 0, .int .i64 0] 46 (0, 0)) := (hf.out.2.block lb (show lb < W0.heap.size by omega)).trans bL
    have hs3 : W0.heap.size ≤ w3.heap.size := hf.out.2.size
    have q1 : (w3.setCell ⟨lb, 0, none⟩ (.slice a' m c')).heap[n0]? = some (.cells #[.pointer (some ⟨lb, 0, none⟩)] 66 (0, 0)) := (set_far (by omega)).trans e1
    have q2 : (w3.setCell ⟨lb, 0, none⟩ (.slice a' m c')).heap[lb]? = some (.cells #[.slice a' m c', .int .i64 0, .int .i64 0] 46 (0, 0)) := by rw [heap_setCell_same w3 lb 0 _ 46 _ e2]; rfl
    have hnl : blk a' ≠ some lb := fun e => by
      obtain ⟨cu, h5⟩ := hf.out.1.type e
      rw [e2] at h5; cases h5
    have q3 : Row (w3.setCell ⟨lb, 0, none⟩ (.slice a' m c')) n0 5 a' m c' (u8s xs) := (hf.out.1.base (show n0 ≤ W0.heap.size by omega)).other _ hnl
    have hsz : (w3.setCell ⟨lb, 0, none⟩ (.slice a' m c')).heap.size = w3.heap.size := by simp
    refine ⟨_, rfl, Boxed.cell (t := 66) q1, by rw [cell_of_row _ lb 0 _ 46 (0, 0) q2]; rfl, ⟨q3.by HH.out.rng, hf.out.1.max, by omega, ?_, ?_, heap_alloc_new _ _, q3.alloc _, ?_⟩⟩
    · rw [heap_alloc_old _ _ (by omega)]; exact q1
    · rw [heap_alloc_old _ _ (by omega)]; exact q2
    · have h9 : Below W0.heap.size W0 w3 := (Below.drew (Below.refl _ W0)).trans hf.out.2
      have hbb : Below w.heap.size w w3 := hb0.trans (h9.mono (show w.heap.size ≤ W0.heap.size by omega))
      refine ⟨hbb.os, hbb.tape, hbb.output, by have := hbb.size; simp; omega, fun k hk h6 _ => ?_⟩
      rw [heap_alloc_old _ _ (by omega), set_far h6]
      exact hbb.block k hk
  have hRL := recs_len _ 0 xs (Nat.le_refl _)
  have HRL : Hid ((recs 0 xs).length * 8 ≤ m) := by rw [HLN.out] at hRL; exact hRL
  clear hRL h hb0 bP bL hL hs0
  gi_wp2
  refine wpIn_region_any mixed ?_
  change wpAnyIn _ _ _ _ _ _ _ _ _ (World.drew _)
  refine wpAnyIn_ready (rs := [0, 1]) (by kernel_rfl) (by simp) ?_
  refine AllReadyIn.cons rfl (fun K hK => ?_) ?_
  · go_simp
    refine hK _ _ ?_
    clear hK K
    try simp only [Act.put, List.setIfInBounds_toArray, List.set_cons_zero, List.set_cons_succ]
    refine wpAnyIn_ready (rs := [1]) (by kernel_rfl) (by simp) ?_
    refine AllReadyIn.cons rfl (fun K hK => ?_) AllReadyIn.nil
    go_simp
    refine hK _ _ ?_
    clear hK K
    try simp only [Act.put, List.setIfInBounds_toArray, List.set_cons_zero, List.set_cons_succ]
    refine wpAnyIn_ready (rs := [2]) (by kernel_rfl) (by simp) ?_
    refine AllReadyIn.cons rfl (fun K hK => ?_) AllReadyIn.nil
    go_simp
    refine ⟨trivial, ?_⟩
    gi_at_call 18
    refine (callsIn_wide.2 H40).mono ?_
    rintro e w3 ⟨a', c', rfl, ho3⟩
    obtain ⟨q1, q2, q3⟩ := HQ.out w3 a' c' ho3
    simp only
    refine hK _ _ ?_
    clear hK K
    try simp only [Act.put, List.setIfInBounds_toArray, List.set_cons_zero, List.set_cons_succ]
    refine wpAnyIn_ready (rs := [3]) (by kernel_rfl) (by simp) ?_
    refine AllReadyIn.cons rfl (fun K hK => ?_) AllReadyIn.nil
    go_simp
    refine hK _ _ ?_
    clear hK K
    try simp only [Act.put, List.setIfInBounds_toArray, List.set_cons_zero, List.set_cons_succ]
    refine wpAnyIn_ready (rs := [4]) (by kernel_rfl) (by simp) ?_
    refine AllReadyIn.cons rfl (fun K hK => ?_) AllReadyIn.nil
    go_simp
    refine hK _ _ ?_
    clear hK K
    try simp only [Act.put, List.setIfInBounds_toArray, List.set_cons_zero, List.set_cons_succ]
    refine wpAnyIn_ready (rs := [5]) (by kernel_rfl) (by simp) ?_
    refine AllReadyIn.cons rfl (fun K hK => ?_) AllReadyIn.nil
    go_simp
    refine hK _ _ ?_
    clear hK K
    try simp only [Act.put, List.setIfInBounds_toArray, List.set_cons_zero, List.set_cons_succ]
    refine wpAnyIn_done (by kernel_rfl) ?_ _
    obtain ⟨W4, hW4, r0, r1, HL4⟩ := HT.out w3 a' c' ho3
    rw [hW4]
    clear hW4 q1 q2 q3 ho3
    have H39 := j39 a' m c' W4
    gi_wp2_with (refine ⟨trivial, ?_⟩; gi_at_call 27; refine (callsIn_wide.2 H39).mono ?_; rintro e w' ⟨rfl, rfl⟩)
    obtain ⟨hby4, hmx, hs4, hI0⟩ := HL4.out
    obtain ⟨W5, hW5⟩ : ∃ W5, W4.alloc (.cells #[.slice a' m c'] 29) = W5 := ⟨_, rfl⟩
    have hs5 : W5.heap.size = W4.heap.size + 1 := by rw [← hW5]; simp
    have hby5 : By W5 a' m c' xs := hby4.below (by rw [← hW5]; exact (Below.refl _ W4).alloc (Nat.le_refl _) _)
    rw [hW5] at hI0 ⊢
    obtain ⟨Bs, hBs⟩ : ∃ Bs, W4.heap.size = Bs := ⟨_, rfl⟩
    rw [hBs] at hI0 hs5 hs4 ⊢
    clear hW5 H39 HL4 hby4 r0 r1 hBs
    obtain ⟨gs, hgs0, hgs1, hgs2⟩ : ∃ gs : List Nat, Bs ∈ gs ∧ (m ≠ 0 → ∀ g, blk a' = some g → g ∈ gs) ∧ (∀ g ∈ gs, g ≠ lb ∧ g < W5.heap.size) := by
      cases a' with
      | none => exact ⟨[Bs], by simp, fun _ g e => by (cases e), fun g hg => by simp at hg; subst hg; omega⟩
      | some ad =>
        refine ⟨[Bs, ad.block], by simp, fun _ g e => by (cases e; simp), fun g hg => ?_⟩
        simp only [List.mem_cons, List.not_mem_nil, or_false] at hg
        rcases hg with rfl | rfl
        · omega
        · have h5 := hI0.2.2.2.1.lt (g := ad.block) rfl
          omega
    have HST := recs_stops 5 (by decide) Bs gs W5 a' m c' xs hby5 (by omega) hgs0 hgs1 hI0.2.2.1
    have HGB : Hid (∀ g ∈ gs, g ≠ lb ∧ g < W5.heap.size) := hgs2
    clear hgs0 hgs1 hgs2 hby5
    refine wpIn_rangeFunc_ownH rfl (by decide) (gf := 30) (lb := #[.pointer (some ⟨Bs, 0, none⟩)]) rfl trivial (enters_of Try.func30 (by kernel_rfl) rfl)
      HST KK.trans (fun W l o o' hl ho hc _ => ⟨by simp, fun g hg hlt => World.putObj_heap_other (by have := HGB.out g hg; omega)⟩) (Below.refl _ _) (fun _ => rfl)
      (fun (pre : List { x : It // InBy a' m c' xs x }) W => LdI n0 lb Bs a' m c' xs w (pre.map (fun x => x.1.st)) W)
      (fun _ _ _ => False)
      (fun s A B row hs hg hr => ldI_own n0 lb Bs a' m c' xs w W5.heap.size (by omega) (s.map (fun x => x.1.st)) A B row hs hg hr)
      (fun _ _ _ _ _ hs _ _ => hs)
      hI0
      (fun x a'' W => ∃ p5 p6 p7 p8 p9 p10 p11 p12 p13 : Value, a'' = { tmps := #[.pointer (some ⟨lb, 0, none⟩), .slice a m c, .pointer (some ⟨n0, 0, none⟩), undef, .int .i64 x.1.e, p5, p6, p7, p8, p9, p10, p11, p12, p13, .func (.func 30) #[] #[.pointer (some ⟨Bs, 0, none⟩)], .int .i64 x.1.e, .slice (some x.1.ad) x.1.ps.length x.1.ps.length, undef, undef, undef, undef, undef, undef, undef, undef, undef, undef, undef], defers := [] })
      (fun x a' _ X Y row hs hg hr => hs)
      ?assign ?body ?done ?stop
    case assign =>
      rintro lp pre x W K hI hK
      gi_wp2
      exact hK _ _ ((KeepsOthers.refl _).from _) (KK.refl _ _) hI ⟨_, _, _, _, _, _, _, _, _, rfl⟩
    case body =>
      rintro lp pre ⟨⟨xe, xad, ps⟩, hx⟩ a'' W hlp ⟨r, hr⟩ hI ⟨p5, p6, p7, p8, p9, p10, p11, p12, p13, rfl⟩ hlt
      simp only
      obtain ⟨i1, i2, i3, i4, i5⟩ := hI
      have u0 : W.cell? ⟨n0, 0, none⟩ = some (.pointer (some ⟨lb, 0, none⟩)) := Boxed.cell (t := 66) i1
      have u1 : W.cell? ⟨lb, 1, none⟩ = some (.int .i64 (pre.map (fun x => x.1.st)).length) := by rw [cell_of_row W lb 1 _ 46 (0, 0) i2]; rfl
      have u2 : W.frozen? ⟨lb, 1, none⟩ = false := frozen_of_row W lb 1 _ 46 i2
      have k1 : ∀ v, (W.setCell ⟨lb, 1, none⟩ v).cell? ⟨n0, 0, none⟩ = some (.pointer (some ⟨lb, 0, none⟩)) := fun v => Boxed.cell (t := 66) ((set_far (by omega)).trans i1)
      have k2 : ∀ v, (W.setCell ⟨lb, 1, none⟩ v).heap[lb]? = some (.cells #[.slice a' m c', v, .int .i64 (lastE (pre.map (fun x => x.1.st)))] 46 (0, 0)) := fun v => by rw [heap_setCell_same W lb 1 _ 46 _ i2]; rfl
      have k3 : ∀ v, (W.setCell ⟨lb, 1, none⟩ v).cell? ⟨lb, 2, none⟩ = some (.int .i64 (lastE (pre.map (fun x => x.1.st)))) := fun v => by rw [cell_of_row _ lb 2 _ 46 (0, 0) (k2 v)]; rfl
      have k4 : ∀ v, (W.setCell ⟨lb, 1, none⟩ v).frozen? ⟨lb, 2, none⟩ = false := fun v => frozen_of_row _ lb 2 _ 46 (k2 v)
      have hpl : (pre.map (fun x => x.1.st)).length ≤ 1000000000 := by have := HRL.out; simp; omega
      have HEND : Hid (∀ cn : Int, cn = ((pre.map (fun x => x.1.st)).length : Int) + 1 → KeepsFrom W5.heap.size W ((W.setCell ⟨lb, 1, none⟩ (.int .i64 cn)).setCell ⟨lb, 2, none⟩ (.int .i64 xe)) ∧ KK gs W ((W.setCell ⟨lb, 1, none⟩ (.int .i64 cn)).setCell ⟨lb, 2, none⟩ (.int .i64 xe)) ∧ LdI n0 lb Bs a' m c' xs w ((pre ++ [(⟨⟨xe, xad, ps⟩, hx⟩ : { x : It // InBy a' m c' xs x })]).map (fun x => x.1.st)) ((W.setCell ⟨lb, 1, none⟩ (.int .i64 cn)).setCell ⟨lb, 2, none⟩ (.int .i64 xe))) := fun cn hcn => by
        have hfar : ∀ g, g ≠ lb → ((W.setCell ⟨lb, 1, none⟩ (.int .i64 cn)).setCell ⟨lb, 2, none⟩ (.int .i64 xe)).heap[g]? = W.heap[g]? := fun g hg => (set_far hg).trans (set_far hg)
        have hbl : blk a' ≠ some lb := fun e => by
          obtain ⟨cu, h5⟩ := i4.type e
          rw [i2] at h5; cases h5
        refine ⟨((keeps_set i2).trans (keeps_set (k2 _))).from _, ⟨by simp, fun g hg _ => hfar g (HGB.out g hg).1⟩, (hfar n0 (by omega)).trans i1, ?_, (hfar Bs (by omega)).trans i3, (i4.other _ hbl).other _ hbl, i5.os, i5.tape, i5.output, by have := i5.size; simpa using this, fun k hk h6 h7 => (hfar k h6).trans (i5.block k hk h6 h7)⟩
        rw [log_three i2, List.map_append, List.map_cons, List.map_nil, lastE_snoc, List.length_append, hcn]
        simp [It.st]
      clear i1 i2 i3 i4 i5 k2 hlt hr
      generalize (pre.map (fun x => x.1.st)).length = pl at *
      gi_wp2
      exact HEND.out _ rfl
    case done =>
      rintro D zs W hD hzs hI hK
      rw [hzs] at hI
      have HFI : Hid (LdI n0 lb Bs a' m c' xs w (recs 0 xs) W) := hI
      have hg := grownBy_putObj' W D (.deferred none)
      have hr : ∀ r, some D = some r → ∃ o : Obj, W.heap[r]? = some o ∧ o.isCells = false := fun r e => by cases e; exact ⟨_, hK, rfl⟩
      have HFN : Hid (∃ s : Sl, s.n = m ∧ LogAt (W.putObj D (.deferred none)) lb w.heap.size s xs ∧ KeepL lb none w (W.putObj D (.deferred none))) := by
        obtain ⟨i1, i2, i3, i4, i5⟩ := hI
        refine ⟨⟨a', m, c'⟩, rfl, ⟨cells_kept hg hr i2, by rw [hn0]; exact i4.cells hg hr, HH.out.rng⟩, hg.os.trans i5.os, hg.tape.trans i5.tape, hg.output.trans i5.output, Nat.le_trans i5.size hg.size, fun k hk h6 h7 => ?_⟩
        exact (hg.block k (Nat.lt_of_lt_of_le hk i5.size) (fun e => by cases e; omega)).trans (i5.block k hk h6 h7)
      clear hI hzs hg hr
      gi_wp2
      refine ⟨by simp, .inl ⟨_, _, rfl, run_takeDeferred hK, ?_⟩⟩
      refine ⟨.tuple #[], ?_, rfl, HFN.out⟩
      simp [results, Try.f19, go_sem]
    case stop =>
      rintro D c pre W hD hpre hF
      exact hF.elim
  refine AllReadyIn.cons rfl (fun K hK => ?_) AllReadyIn.nil
  go_simp
  refine hK _ _ ?_
  clear hK K
  try simp only [Act.put, List.setIfInBounds_toArray, List.set_cons_zero, List.set_cons_succ]
  refine wpAnyIn_ready (rs := [0, 2]) (by kernel_rfl) (by simp) ?_
  refine AllReadyIn.cons rfl (fun K hK => ?_) ?_
  · go_simp
    refine hK _ _ ?_
    clear hK K
    try simp only [Act.put, List.setIfInBounds_toArray, List.set_cons_zero, List.set_cons_succ]
    refine wpAnyIn_ready (rs := [2]) (by kernel_rfl) (by simp) ?_
    refine AllReadyIn.cons rfl (fun K hK => ?_) AllReadyIn.nil
    go_simp
    refine ⟨trivial, ?_⟩
    gi_at_call 18
    refine (callsIn_wide.2 H40).mono ?_
    rintro e w3 ⟨a', c', rfl, ho3⟩
    obtain ⟨q1, q2, q3⟩ := HQ.out w3 a' c' ho3
    simp only
    refine hK _ _ ?_
    clear hK K
    try simp only [Act.put, List.setIfInBounds_toArray, List.set_cons_zero, List.set_cons_succ]
    refine wpAnyIn_ready (rs := [3]) (by kernel_rfl) (by simp) ?_
    refine AllReadyIn.cons rfl (fun K hK => ?_) AllReadyIn.nil
    go_simp
    refine hK _ _ ?_
    clear hK K
    try simp only [Act.put, List.setIfInBounds_toArray, List.set_cons_zero, List.set_cons_succ]
    refine wpAnyIn_ready (rs := [4]) (by kernel_rfl) (by simp) ?_
    refine AllReadyIn.cons rfl (fun K hK => ?_) AllReadyIn.nil
    go_simp
    refine hK _ _ ?_
    clear hK K
    try simp only [Act.put, List.setIfInBounds_toArray, List.set_cons_zero, List.set_cons_succ]
    refine wpAnyIn_ready (rs := [5]) (by kernel_rfl) (by simp) ?_
    refine AllReadyIn.cons rfl (fun K hK => ?_) AllReadyIn.nil
    go_simp
    refine hK _ _ ?_
    clear hK K
    try simp only [Act.put, List.setIfInBounds_toArray, List.set_cons_zero, List.set_cons_succ]
    refine wpAnyIn_done (by kernel_rfl) ?_ _
    obtain ⟨W4, hW4, r0, r1, HL4⟩ := HT.out w3 a' c' ho3
    rw [hW4]
    clear hW4 q1 q2 q3 ho3
    have H39 := j39 a' m c' W4
    gi_wp2_with (refine ⟨trivial, ?_⟩; gi_at_call 27; refine (callsIn_wide.2 H39).mono ?_; rintro e w' ⟨rfl, rfl⟩)
    obtain ⟨hby4, hmx, hs4, hI0⟩ := HL4.out
    obtain ⟨W5, hW5⟩ : ∃ W5, W4.alloc (.cells #[.slice a' m c'] 29) = W5 := ⟨_, rfl⟩
    have hs5 : W5.heap.size = W4.heap.size + 1 := by rw [← hW5]; simp
    have hby5 : By W5 a' m c' xs := hby4.below (by rw [← hW5]; exact (Below.refl _ W4).alloc (Nat.le_refl _) _)
    rw [hW5] at hI0 ⊢
    obtain ⟨Bs, hBs⟩ : ∃ Bs, W4.heap.size = Bs := ⟨_, rfl⟩
    rw [hBs] at hI0 hs5 hs4 ⊢
    clear hW5 H39 HL4 hby4 r0 r1 hBs
    obtain ⟨gs, hgs0, hgs1, hgs2⟩ : ∃ gs : List Nat, Bs ∈ gs ∧ (m ≠ 0 → ∀ g, blk a' = some g → g ∈ gs) ∧ (∀ g ∈ gs, g ≠ lb ∧ g < W5.heap.size) := by
      cases a' with
      | none => exact ⟨[Bs], by simp, fun _ g e => by (cases e), fun g hg => by simp at hg; subst hg; omega⟩
      | some ad =>
        refine ⟨[Bs, ad.block], by simp, fun _ g e => by (cases e; simp), fun g hg => ?_⟩
        simp only [List.mem_cons, List.not_mem_nil, or_false] at hg
        rcases hg with rfl | rfl
        · omega
        · have h5 := hI0.2.2.2.1.lt (g := ad.block) rfl
          omega
    have HST := recs_stops 5 (by decide) Bs gs W5 a' m c' xs hby5 (by omega) hgs0 hgs1 hI0.2.2.1
    have HGB : Hid (∀ g ∈ gs, g ≠ lb ∧ g < W5.heap.size) := hgs2
    clear hgs0 hgs1 hgs2 hby5
    refine wpIn_rangeFunc_ownH rfl (by decide) (gf := 30) (lb := #[.pointer (some ⟨Bs, 0, none⟩)]) rfl trivial (enters_of Try.func30 (by kernel_rfl) rfl)
      HST KK.trans (fun W l o o' hl ho hc _ => ⟨by simp, fun g hg hlt => World.putObj_heap_other (by have := HGB.out g hg; omega)⟩) (Below.refl _ _) (fun _ => rfl)
      (fun (pre : List { x : It // InBy a' m c' xs x }) W => LdI n0 lb Bs a' m c' xs w (pre.map (fun x => x.1.st)) W)
      (fun _ _ _ => False)
      (fun s A B row hs hg hr => ldI_own n0 lb Bs a' m c' xs w W5.heap.size (by omega) (s.map (fun x => x.1.st)) A B row hs hg hr)
      (fun _ _ _ _ _ hs _ _ => hs)
      hI0
      (fun x a'' W => ∃ p5 p6 p7 p8 p9 p10 p11 p12 p13 : Value, a'' = { tmps := #[.pointer (some ⟨lb, 0, none⟩), .slice a m c, .pointer (some ⟨n0, 0, none⟩), undef, .int .i64 x.1.e, p5, p6, p7, p8, p9, p10, p11, p12, p13, .func (.func 30) #[] #[.pointer (some ⟨Bs, 0, none⟩)], .int .i64 x.1.e, .slice (some x.1.ad) x.1.ps.length x.1.ps.length, undef, undef, undef, undef, undef, undef, undef, undef, undef, undef, undef], defers := [] })
      (fun x a' _ X Y row hs hg hr => hs)
      ?assign ?body ?done ?stop
    case assign =>
      rintro lp pre x W K hI hK
      gi_wp2
      exact hK _ _ ((KeepsOthers.refl _).from _) (KK.refl _ _) hI ⟨_, _, _, _, _, _, _, _, _, rfl⟩
    case body =>
      rintro lp pre ⟨⟨xe, xad, ps⟩, hx⟩ a'' W hlp ⟨r, hr⟩ hI ⟨p5, p6, p7, p8, p9, p10, p11, p12, p13, rfl⟩ hlt
      simp only
      obtain ⟨i1, i2, i3, i4, i5⟩ := hI
      have u0 : W.cell? ⟨n0, 0, none⟩ = some (.pointer (some ⟨lb, 0, none⟩)) := Boxed.cell (t := 66) i1
      have u1 : W.cell? ⟨lb, 1, none⟩ = some (.int .i64 (pre.map (fun x => x.1.st)).length) := by rw [cell_of_row W lb 1 _ 46 (0, 0) i2]; rfl
      have u2 : W.frozen? ⟨lb, 1, none⟩ = false := frozen_of_row W lb 1 _ 46 i2
      have k1 : ∀ v, (W.setCell ⟨lb, 1, none⟩ v).cell? ⟨n0, 0, none⟩ = some (.pointer (some ⟨lb, 0, none⟩)) := fun v => Boxed.cell (t := 66) ((set_far (by omega)).trans i1)
      have k2 : ∀ v, (W.setCell ⟨lb, 1, none⟩ v).heap[lb]? = some (.cells #[.slice a' m c', v, .int .i64 (lastE (pre.map (fun x => x.1.st)))] 46 (0, 0)) := fun v => by rw [heap_setCell_same W lb 1 _ 46 _ i2]; rfl
      have k3 : ∀ v, (W.setCell ⟨lb, 1, none⟩ v).cell? ⟨lb, 2, none⟩ = some (.int .i64 (lastE (pre.map (fun x => x.1.st)))) := fun v => by rw [cell_of_row _ lb 2 _ 46 (0, 0) (k2 v)]; rfl
      have k4 : ∀ v, (W.setCell ⟨lb, 1, none⟩ v).frozen? ⟨lb, 2, none⟩ = false := fun v => frozen_of_row _ lb 2 _ 46 (k2 v)
      have hpl : (pre.map (fun x => x.1.st)).length ≤ 1000000000 := by have := HRL.out; simp; omega
      have HEND : Hid (∀ cn : Int, cn = ((pre.map (fun x => x.1.st)).length : Int) + 1 → KeepsFrom W5.heap.size W ((W.setCell ⟨lb, 1, none⟩ (.int .i64 cn)).setCell ⟨lb, 2, none⟩ (.int .i64 xe)) ∧ KK gs W ((W.setCell ⟨lb, 1, none⟩ (.int .i64 cn)).setCell ⟨lb, 2, none⟩ (.int .i64 xe)) ∧ LdI n0 lb Bs a' m c' xs w ((pre ++ [(⟨⟨xe, xad, ps⟩, hx⟩ : { x : It // InBy a' m c' xs x })]).map (fun x => x.1.st)) ((W.setCell ⟨lb, 1, none⟩ (.int .i64 cn)).setCell ⟨lb, 2, none⟩ (.int .i64 xe))) := fun cn hcn => by
        have hfar : ∀ g, g ≠ lb → ((W.setCell ⟨lb, 1, none⟩ (.int .i64 cn)).setCell ⟨lb, 2, none⟩ (.int .i64 xe)).heap[g]? = W.heap[g]? := fun g hg => (set_far hg).trans (set_far hg)
        have hbl : blk a' ≠ some lb := fun e => by
          obtain ⟨cu, h5⟩ := i4.type e
          rw [i2] at h5; cases h5
        refine ⟨((keeps_set i2).trans (keeps_set (k2 _))).from _, ⟨by simp, fun g hg _ => hfar g (HGB.out g hg).1⟩, (hfar n0 (by omega)).trans i1, ?_, (hfar Bs (by omega)).trans i3, (i4.other _ hbl).other _ hbl, i5.os, i5.tape, i5.output, by have := i5.size; simpa using this, fun k hk h6 h7 => (hfar k h6).trans (i5.block k hk h6 h7)⟩
        rw [log_three i2, List.map_append, List.map_cons, List.map_nil, lastE_snoc, List.length_append, hcn]
        simp [It.st]
      clear i1 i2 i3 i4 i5 k2 hlt hr
      generalize (pre.map (fun x => x.1.st)).length = pl at *
      gi_wp2
      exact HEND.out _ rfl
    case done =>
      rintro D zs W hD hzs hI hK
      rw [hzs] at hI
      have HFI : Hid (LdI n0 lb Bs a' m c' xs w (recs 0 xs) W) := hI
      have hg := grownBy_putObj' W D (.deferred none)
      have hr : ∀ r, some D = some r → ∃ o : Obj, W.heap[r]? = some o ∧ o.isCells = false := fun r e => by cases e; exact ⟨_, hK, rfl⟩
      have HFN : Hid (∃ s : Sl, s.n = m ∧ LogAt (W.putObj D (.deferred none)) lb w.heap.size s xs ∧ KeepL lb none w (W.putObj D (.deferred none))) := by
        obtain ⟨i1, i2, i3, i4, i5⟩ := hI
        refine ⟨⟨a', m, c'⟩, rfl, ⟨cells_kept hg hr i2, by rw [hn0]; exact i4.cells hg hr, HH.out.rng⟩, hg.os.trans i5.os, hg.tape.trans i5.tape, hg.output.trans i5.output, Nat.le_trans i5.size hg.size, fun k hk h6 h7 => ?_⟩
        exact (hg.block k (Nat.lt_of_lt_of_le hk i5.size) (fun e => by cases e; omega)).trans (i5.block k hk h6 h7)
      clear hI hzs hg hr
      gi_wp2
      refine ⟨by simp, .inl ⟨_, _, rfl, run_takeDeferred hK, ?_⟩⟩
      refine ⟨.tuple #[], ?_, rfl, HFN.out⟩
      simp [results, Try.f19, go_sem]
    case stop =>
      rintro D c pre W hD hpre hF
      exact hF.elim
  refine AllReadyIn.cons rfl (fun K hK => ?_) AllReadyIn.nil
  go_simp
  refine ⟨trivial, ?_⟩
  gi_at_call 18
  refine (callsIn_wide.2 H40).mono ?_
  rintro e w3 ⟨a', c', rfl, ho3⟩
  obtain ⟨q1, q2, q3⟩ := HQ.out w3 a' c' ho3
  simp only
  refine hK _ _ ?_
  clear hK K
  try simp only [Act.put, List.setIfInBounds_toArray, List.set_cons_zero, List.set_cons_succ]
  refine wpAnyIn_ready (rs := [0]) (by kernel_rfl) (by simp) ?_
  refine AllReadyIn.cons rfl (fun K hK => ?_) AllReadyIn.nil
  go_simp
  refine hK _ _ ?_
  clear hK K
  try simp only [Act.put, List.setIfInBounds_toArray, List.set_cons_zero, List.set_cons_succ]
  refine wpAnyIn_ready (rs := [3]) (by kernel_rfl) (by simp) ?_
  refine AllReadyIn.cons rfl (fun K hK => ?_) AllReadyIn.nil
  go_simp
  refine hK _ _ ?_
  clear hK K
  try simp only [Act.put, List.setIfInBounds_toArray, List.set_cons_zero, List.set_cons_succ]
  refine wpAnyIn_ready (rs := [4]) (by kernel_rfl) (by simp) ?_
  refine AllReadyIn.cons rfl (fun K hK => ?_) AllReadyIn.nil
  go_simp
  refine hK _ _ ?_
  clear hK K
  try simp only [Act.put, List.setIfInBounds_toArray, List.set_cons_zero, List.set_cons_succ]
  refine wpAnyIn_ready (rs := [5]) (by kernel_rfl) (by simp) ?_
  refine AllReadyIn.cons rfl (fun K hK => ?_) AllReadyIn.nil
  go_simp
  refine hK _ _ ?_
  clear hK K
  try simp only [Act.put, List.setIfInBounds_toArray, List.set_cons_zero, List.set_cons_succ]
  refine wpAnyIn_done (by kernel_rfl) ?_ _
  obtain ⟨W4, hW4, r0, r1, HL4⟩ := HT.out w3 a' c' ho3
  rw [hW4]
  clear hW4 q1 q2 q3 ho3
  have H39 := j39 a' m c' W4
  gi_wp2_with (refine ⟨trivial, ?_⟩; gi_at_call 27; refine (callsIn_wide.2 H39).mono ?_; rintro e w' ⟨rfl, rfl⟩)
  obtain ⟨hby4, hmx, hs4, hI0⟩ := HL4.out
  obtain ⟨W5, hW5⟩ : ∃ W5, W4.alloc (.cells #[.slice a' m c'] 29) = W5 := ⟨_, rfl⟩
  have hs5 : W5.heap.size = W4.heap.size + 1 := by rw [← hW5]; simp
  have hby5 : By W5 a' m c' xs := hby4.below (by rw [← hW5]; exact (Below.refl _ W4).alloc (Nat.le_refl _) _)
  rw [hW5] at hI0 ⊢
  obtain ⟨Bs, hBs⟩ : ∃ Bs, W4.heap.size = Bs := ⟨_, rfl⟩
  rw [hBs] at hI0 hs5 hs4 ⊢
  clear hW5 H39 HL4 hby4 r0 r1 hBs
  obtain ⟨gs, hgs0, hgs1, hgs2⟩ : ∃ gs : List Nat, Bs ∈ gs ∧ (m ≠ 0 → ∀ g, blk a' = some g → g ∈ gs) ∧ (∀ g ∈ gs, g ≠ lb ∧ g < W5.heap.size) := by
    cases a' with
    | none => exact ⟨[Bs], by simp, fun _ g e => by (cases e), fun g hg => by simp at hg; subst hg; omega⟩
    | some ad =>
      refine ⟨[Bs, ad.block], by simp, fun _ g e => by (cases e; simp), fun g hg => ?_⟩
      simp only [List.mem_cons, List.not_mem_nil, or_false] at hg
      rcases hg with rfl | rfl
      · omega
      · have h5 := hI0.2.2.2.1.lt (g := ad.block) rfl
        omega
  have HST := recs_stops 5 (by decide) Bs gs W5 a' m c' xs hby5 (by omega) hgs0 hgs1 hI0.2.2.1
  have HGB : Hid (∀ g ∈ gs, g ≠ lb ∧ g < W5.heap.size) := hgs2
  clear hgs0 hgs1 hgs2 hby5
  refine wpIn_rangeFunc_ownH rfl (by decide) (gf := 30) (lb := #[.pointer (some ⟨Bs, 0, none⟩)]) rfl trivial (enters_of Try.func30 (by kernel_rfl) rfl)
    HST KK.trans (fun W l o o' hl ho hc _ => ⟨by simp, fun g hg hlt => World.putObj_heap_other (by have := HGB.out g hg; omega)⟩) (Below.refl _ _) (fun _ => rfl)
    (fun (pre : List { x : It // InBy a' m c' xs x }) W => LdI n0 lb Bs a' m c' xs w (pre.map (fun x => x.1.st)) W)
    (fun _ _ _ => False)
    (fun s A B row hs hg hr => ldI_own n0 lb Bs a' m c' xs w W5.heap.size (by omega) (s.map (fun x => x.1.st)) A B row hs hg hr)
    (fun _ _ _ _ _ hs _ _ => hs)
    hI0
    (fun x a'' W => ∃ p5 p6 p7 p8 p9 p10 p11 p12 p13 : Value, a'' = { tmps := #[.pointer (some ⟨lb, 0, none⟩), .slice a m c, .pointer (some ⟨n0, 0, none⟩), undef, .int .i64 x.1.e, p5, p6, p7, p8, p9, p10, p11, p12, p13, .func (.func 30) #[] #[.pointer (some ⟨Bs, 0, none⟩)], .int .i64 x.1.e, .slice (some x.1.ad) x.1.ps.length x.1.ps.length, undef, undef, undef, undef, undef, undef, undef, undef, undef, undef, undef], defers := [] })
    (fun x a' _ X Y row hs hg hr => hs)
    ?assign ?body ?done ?stop
  case assign =>
    rintro lp pre x W K hI hK
    gi_wp2
    exact hK _ _ ((KeepsOthers.refl _).from _) (KK.refl _ _) hI ⟨_, _, _, _, _, _, _, _, _, rfl⟩
  case body =>
    rintro lp pre ⟨⟨xe, xad, ps⟩, hx⟩ a'' W hlp ⟨r, hr⟩ hI ⟨p5, p6, p7, p8, p9, p10, p11, p12, p13, rfl⟩ hlt
    simp only
    obtain ⟨i1, i2, i3, i4, i5⟩ := hI
    have u0 : W.cell? ⟨n0, 0, none⟩ = some (.pointer (some ⟨lb, 0, none⟩)) := Boxed.cell (t := 66) i1
    have u1 : W.cell? ⟨lb, 1, none⟩ = some (.int .i64 (pre.map (fun x => x.1.st)).length) := by rw [cell_of_row W lb 1 _ 46 (0, 0) i2]; rfl
    have u2 : W.frozen? ⟨lb, 1, none⟩ = false := frozen_of_row W lb 1 _ 46 i2
    have k1 : ∀ v, (W.setCell ⟨lb, 1, none⟩ v).cell? ⟨n0, 0, none⟩ = some (.pointer (some ⟨lb, 0, none⟩)) := fun v => Boxed.cell (t := 66) ((set_far (by omega)).trans i1)
    have k2 : ∀ v, (W.setCell ⟨lb, 1, none⟩ v).heap[lb]? = some (.cells #[.slice a' m c', v, .int .i64 (lastE (pre.map (fun x => x.1.st)))] 46 (0, 0)) := fun v => by rw [heap_setCell_same W lb 1 _ 46 _ i2]; rfl
    have k3 : ∀ v, (W.setCell ⟨lb, 1, none⟩ v).cell? ⟨lb, 2, none⟩ = some (.int .i64 (lastE (pre.map (fun x => x.1.st)))) := fun v => by rw [cell_of_row _ lb 2 _ 46 (0, 0) (k2 v)]; rfl
    have k4 : ∀ v, (W.setCell ⟨lb, 1, none⟩ v).frozen? ⟨lb, 2, none⟩ = false := fun v => frozen_of_row _ lb 2 _ 46 (k2 v)
    have hpl : (pre.map (fun x => x.1.st)).length ≤ 1000000000 := by have := HRL.out; simp; omega
    have HEND : Hid (∀ cn : Int, cn = ((pre.map (fun x => x.1.st)).length : Int) + 1 → KeepsFrom W5.heap.size W ((W.setCell ⟨lb, 1, none⟩ (.int .i64 cn)).setCell ⟨lb, 2, none⟩ (.int .i64 xe)) ∧ KK gs W ((W.setCell ⟨lb, 1, none⟩ (.int .i64 cn)).setCell ⟨lb, 2, none⟩ (.int .i64 xe)) ∧ LdI n0 lb Bs a' m c' xs w ((pre ++ [(⟨⟨xe, xad, ps⟩, hx⟩ : { x : It // InBy a' m c' xs x })]).map (fun x => x.1.st)) ((W.setCell ⟨lb, 1, none⟩ (.int .i64 cn)).setCell ⟨lb, 2, none⟩ (.int .i64 xe))) := fun cn hcn => by
      have hfar : ∀ g, g ≠ lb → ((W.setCell ⟨lb, 1, none⟩ (.int .i64 cn)).setCell ⟨lb, 2, none⟩ (.int .i64 xe)).heap[g]? = W.heap[g]? := fun g hg => (set_far hg).trans (set_far hg)
      have hbl : blk a' ≠ some lb := fun e => by
        obtain ⟨cu, h5⟩ := i4.type e
        rw [i2] at h5; cases h5
      refine ⟨((keeps_set i2).trans (keeps_set (k2 _))).from _, ⟨by simp, fun g hg _ => hfar g (HGB.out g hg).1⟩, (hfar n0 (by omega)).trans i1, ?_, (hfar Bs (by omega)).trans i3, (i4.other _ hbl).other _ hbl, i5.os, i5.tape, i5.output, by have := i5.size; simpa using this, fun k hk h6 h7 => (hfar k h6).trans (i5.block k hk h6 h7)⟩
      rw [log_three i2, List.map_append, List.map_cons, List.map_nil, lastE_snoc, List.length_append, hcn]
      simp [It.st]
    clear i1 i2 i3 i4 i5 k2 hlt hr
    generalize (pre.map (fun x => x.1.st)).length = pl at *
    gi_wp2
    exact HEND.out _ rfl
  case done =>
    rintro D zs W hD hzs hI hK
    rw [hzs] at hI
    have HFI : Hid (LdI n0 lb Bs a' m c' xs w (recs 0 xs) W) := hI
    have hg := grownBy_putObj' W D (.deferred none)
    have hr : ∀ r, some D = some r → ∃ o : Obj, W.heap[r]? = some o ∧ o.isCells = false := fun r e => by cases e; exact ⟨_, hK, rfl⟩
    have HFN : Hid (∃ s : Sl, s.n = m ∧ LogAt (W.putObj D (.deferred none)) lb w.heap.size s xs ∧ KeepL lb none w (W.putObj D (.deferred none))) := by
      obtain ⟨i1, i2, i3, i4, i5⟩ := hI
      refine ⟨⟨a', m, c'⟩, rfl, ⟨cells_kept hg hr i2, by rw [hn0]; exact i4.cells hg hr, HH.out.rng⟩, hg.os.trans i5.os, hg.tape.trans i5.tape, hg.output.trans i5.output, Nat.le_trans i5.size hg.size, fun k hk h6 h7 => ?_⟩
      exact (hg.block k (Nat.lt_of_lt_of_le hk i5.size) (fun e => by cases e; omega)).trans (i5.block k hk h6 h7)
    clear hI hzs hg hr
    gi_wp2
    refine ⟨by simp, .inl ⟨_, _, rfl, run_takeDeferred hK, ?_⟩⟩
    refine ⟨.tuple #[], ?_, rfl, HFN.out⟩
    simp [results, Try.f19, go_sem]
  case stop =>
    rintro D c pre W hD hpre hF
    exact hF.elim
set_option maxRecDepth 100000 in
set_option maxHeartbeats 1000000 in
theorem j23 (a : Option Addr) (m c : Nat) (xs : List Int) (w : World) (h : By w a m c xs) (hm : m ≤ 1000000000) :
    Calls Try.prog 10 #[.slice a m c] w fun e w' => ∃ s, e = .returned (.pointer (some ⟨w.heap.size, 0, none⟩)) ∧ s.n = m ∧ LogAt w' w.heap.size w.heap.size s xs ∧ Below w.heap.size w w' := by
  have hb0 : Below w.heap.size w (w.alloc (.cells #[.slice none 0 0, .int .i64 0, .int .i64 0] 46)) := (Below.refl _ w).alloc (Nat.le_refl _) _
  have H47 : Calls Try.prog 19 #[.pointer (some ⟨w.heap.size, 0, none⟩), .slice a m c] (w.alloc (.cells #[.slice none 0 0, .int .i64 0, .int .i64 0] 46)) fun e w' => e = .returned (.tuple #[]) ∧ Hid (∃ s : Sl, s.n = m ∧ LogAt w' w.heap.size w.heap.size s xs ∧ Below w.heap.size w w') := by
    refine (j47 w.heap.size a m c xs _ (heap_alloc_new w _) (h.below hb0) hm).mono ?_
    rintro e w' ⟨rfl, s, h1, h2, h3⟩
    refine ⟨rfl, s, h1, ⟨h2.blk, h2.row.base hb0.size, h2.rng⟩, hb0.trans (h3.below (Nat.le_refl _) (fun g e => by cases e) hb0.size)⟩
  clear h
  go_enter Try.func10, Try.ntmps10
  go_wp2_with fail
  refine (j34 w).mono ?_
  rintro e w1 ⟨rfl, hw1⟩
  obtain rfl := hw1.symm
  go_wp2_with fail
  refine H47.mono ?_
  rintro e w2 ⟨rfl, hP⟩
  go_wp2_with fail
  go_ret
  obtain ⟨s, h1, h2, h3⟩ := hP.out
  exact ⟨s, rfl, h1, h2, h3⟩
end Go.Proofs.Ytopljcabcknaeaa
