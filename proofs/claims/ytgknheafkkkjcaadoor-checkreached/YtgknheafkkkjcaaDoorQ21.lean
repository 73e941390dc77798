/- Contract of Reached. row.add on a new row, of what goals call; the walk of Reached stands in K46.draft.txt. Contract of Reached: the walk. CheckReached: the plain side. How many goals a program and a row of goals hold at most, by the bulk of what is handed in. The contract of CheckReached. -/
import Derived.Test.YtgknheafkkkjcaaDoorQ20
import Derived.Laws.AppendOwnNone
namespace Go.Proofs.YtgknheafkkkjcaaDoor
open Go.RowKit
attribute [local go_sem ↓] Go.wp_at_zero Go.wp_at_succ
/-- What is known of the row as it grows: it holds what the goals call, no more than what is closed and holds that, each once. -/
structure Grows (cs : List Cl) (ls : List (List C)) (acc : List Pd) : Prop where
  goals : ∀ y ∈ calledS ls, y ∈ acc
  least : ∀ S : Pd → Prop, (∀ y ∈ calledS ls, S y) → Closed cs S → ∀ y ∈ acc, S y
  once : acc.Nodup
theorem Grows.len {cs : List Cl} {ls : List (List C)} {acc : List Pd} (h : Grows cs ls acc) : acc.length ≤ (univ cs ls).length :=
  nodup_le _ _ h.once (h.least _ (fun _ hy => List.mem_append_left _ hy) univ_leads)
theorem Grows.start (cs : List Cl) (ls : List (List C)) : Grows cs ls ((calledS ls).foldl addP []) := by
  refine ⟨fun y hy => (foldP_iff _ _ _).2 (.inr hy), fun S hS _ y hy => ?_, foldP_nodup _ (by simp)⟩
  rcases (foldP_iff _ _ _).1 hy with h | h
  · simp at h
  · exact hS y h
theorem Grows.add {cs : List Cl} {ls : List (List C)} {acc : List Pd} (h : Grows cs ls acc) {x : Pd} {n : Nat} {c : Cl} (hx : x ∈ acc) (hc : cs[n]? = some c) (hk : hasK c x = true) : Grows cs ls ((calledS c.bs).foldl addP acc) := by
  refine ⟨fun y hy => (foldP_iff _ _ _).2 (.inl (h.goals y hy)), fun S hS hC y hy => ?_, foldP_nodup _ h.once⟩
  rcases (foldP_iff _ _ _).1 hy with hy | hy
  · exact h.least S hS hC y hy
  · exact hC x y (h.least S hS hC x hx) ⟨n, c, hc, hk, hy⟩
/-- The first k predicates of the row are done: what they lead to is there. -/
def Done (cs : List Cl) (acc : List Pd) (k : Nat) : Prop := ∀ j x, j < k → acc[j]? = some x → ∀ y, leads cs x y → y ∈ acc
/-- .. and of predicate x the first j of its clauses. -/
def Half (cs : List Cl) (acc : List Pd) (x : Pd) (j : Nat) : Prop := ∀ i z, i < j → (idxG cs x cs.length)[i]? = some z → ∀ c, cs[z.toNat]? = some c → ∀ y ∈ calledS c.bs, y ∈ acc
theorem Done.mono {cs : List Cl} {acc : List Pd} {k : Nat} (h : Done cs acc k) (hk : k ≤ acc.length) (xs : List Pd) : Done cs (xs.foldl addP acc) k := by
  intro j x hj hx y hl
  rw [(foldP_prefix xs acc).2 j (by omega)] at hx
  exact (foldP_iff _ _ _).2 (.inl (h j x hj hx y hl))
theorem Half.mono {cs : List Cl} {acc : List Pd} {x : Pd} {j : Nat} (h : Half cs acc x j) {c : Cl} {z : Int} (hz : (idxG cs x cs.length)[j]? = some z) (hc : cs[z.toNat]? = some c) : Half cs ((calledS c.bs).foldl addP acc) x (j + 1) := by
  intro i z' hi hz' c' hc' y hy
  by_cases hij : i = j
  · subst hij
    rw [hz] at hz'; cases hz'
    rw [hc] at hc'; cases hc'
    exact (foldP_iff _ _ _).2 (.inr hy)
  · exact (foldP_iff _ _ _).2 (.inl (h i z' (by omega) hz' c' hc' y hy))
theorem Done.next {cs : List Cl} {acc : List Pd} {k : Nat} {x : Pd} (h : Done cs acc k) (hx : acc[k]? = some x) (hh : Half cs acc x (idxG cs x cs.length).length) : Done cs acc (k + 1) := by
  intro j x' hj hx' y hl
  by_cases hjk : j = k
  · subst hjk
    rw [hx] at hx'; cases hx'
    obtain ⟨n, c, hc, hk, hy⟩ := hl
    have hn : n < cs.length := (List.getElem?_eq_some_iff.1 hc).1
    obtain ⟨i, hi, he⟩ := List.getElem_of_mem (mem_idxG cs x n cs.length c hn hc hk)
    refine hh i (n : Int) hi (by rw [List.getElem?_eq_getElem hi, he]) c ?_ y hy
    simpa using hc
  · exact h j x' (by omega) hx' y hl
/-- The row, and the map of clauses beside it. -/
structure RS (w0 w : World) (base R m M : Nat) (lv : Value) (acc : List Pd) : Prop where
  row : RowSt w base R m lv acc
  size : w0.heap.size ≤ w.heap.size
  seg : ∀ k, M ≤ k → k < w0.heap.size → w.heap[k]? = w0.heap[k]? ∧ lv.ownBlock ≠ some k
  mR : R < M ∧ m < M
theorem RS.below {w0 w w' : World} {base R m M : Nat} {lv : Value} {acc : List Pd} (h : RS w0 w base R m M lv acc) (hb : Below w.heap.size w w') : RS w0 w' base R m M lv acc :=
  ⟨h.row.below hb, Nat.le_trans h.size hb.size, fun k h1 h2 => ⟨(hb.block k (Nat.lt_of_lt_of_le h2 h.size)).trans (h.seg k h1 h2).1, (h.seg k h1 h2).2⟩, h.mR⟩
/-- row.add of what a body calls, with the map of clauses beside. -/
theorem k39_rs (xs acc : List Pd) (lv : Value) (base R m M : Nat) (w0 w : World) (u : Value) (wb : World) (h : RS w0 wb base R m M lv acc) (hO : w.ownsRow wb.heap.size 40 2 u xs.length (flatP xs)) (hb : Below wb.heap.size wb w) (hx : ∀ y ∈ xs, wfP y) (hn : acc.length + xs.length ≤ 5864062014805) (hbase : base ≤ wb.heap.size) :
    Calls Tryd.prog 39 #[.pointer (some ⟨R, 0, none⟩), u] w fun e w' => e = .returned (.tuple #[]) ∧ (∃ lv', RS w0 w' base R m M lv' (xs.foldl addP acc)) ∧ Below base w w' := by
  have hRS := h.below hb
  have hml : m < wb.heap.size := by
    obtain ⟨es, ck, hh, _⟩ := h.row.2.2.2.2.1
    exact (Array.getElem?_eq_some_iff.1 hh).1
  have hRl : R < wb.heap.size := (Array.getElem?_eq_some_iff.1 h.row.1).1
  have hsz := hb.size
  rcases hO.2 with ⟨h1, h2⟩ | ⟨g, cap, cur, h1, h2, h3, h4, h5, h6, h7⟩
  · have hxs : xs = [] := List.eq_nil_of_length_eq_zero h2
    subst h1 hxs
    refine (k39_on_nil acc lv base R m none 0 w hRS.row).mono ?_
    rintro e w' ⟨rfl, rfl⟩
    exact ⟨rfl, ⟨lv, hRS⟩, Below.refl _ _⟩
  · subst h1
    have hg : g < w.heap.size := (Array.getElem?_eq_some_iff.1 h3).1
    have hlg : lv.ownBlock ≠ some g := fun e => by have := (h.row.2.2.2.1.lt g e).2; omega
    refine (k39_onF xs acc lv base R m g 0 cap w hRS.row (range_of_owns h3 h7) hg (by omega) (by omega) hlg hx hn (by omega)).mono ?_
    rintro e w' ⟨rfl, ⟨lv', hS, hF⟩, hb'⟩
    refine ⟨rfl, ⟨lv', hS, Nat.le_trans hRS.size hb'.size, fun k k1 k2 => ?_, h.mR⟩, hb'⟩
    obtain ⟨s1, s2⟩ := hRS.seg k k1 k2
    have hmR := h.mR
    obtain ⟨f1, f2⟩ := hF k (Nat.lt_of_lt_of_le k2 hRS.size) (by omega) (by omega) s2
    exact ⟨f1.trans s1, f2⟩
end Go.Proofs.YtgknheafkkkjcaaDoor
namespace Go.Proofs.YtgknheafkkkjcaaDoor
open Go.RowKit
attribute [local go_sem ↓] Go.wp_at_zero Go.wp_at_succ
theorem flatMap_le {α β : Type} (f : α → List β) : ∀ (l : List α) (x : α), x ∈ l → (f x).length ≤ (l.flatMap f).length
  | [], _, h => by simp at h
  | a :: r, x, h => by
    rcases List.mem_cons.1 h with rfl | h
    · simp
    · have := flatMap_le f r x h
      rw [List.flatMap_cons, List.length_append]
      omega
theorem called_univ {cs : List Cl} {ls : List (List C)} {c : Cl} (h : c ∈ cs) : (calledS c.bs).length ≤ (univ cs ls).length := by
  unfold univ
  rw [List.length_append]
  have := flatMap_le (fun c : Cl => calledS c.bs) cs c h
  omega
theorem k39_first (xs : List Pd) (base R : Nat) (w wb : World) (u : Value) (hR0 : wb.heap[R]? = some (.cells #[.slice none 0 0, .map none] 66 (0, 0))) (hbR : base ≤ R) (hO : w.ownsRow wb.heap.size 40 2 u xs.length (flatP xs)) (hb : Below wb.heap.size wb w) (hx : ∀ y ∈ xs, wfP y) (hn : xs.length ≤ 5864062014805) (_hbase : base ≤ wb.heap.size) :
    Calls Tryd.prog 39 #[.pointer (some ⟨R, 0, none⟩), u] w fun e w' => e = .returned (.tuple #[]) ∧ (∃ m lv', RowSt w' base R m lv' (xs.foldl addP [])) ∧ Below base w w' := by
  have hRl : R < wb.heap.size := (Array.getElem?_eq_some_iff.1 hR0).1
  have hR1 : w.heap[R]? = some (.cells #[.slice none 0 0, .map none] 66 (0, 0)) := (hb.block R hRl).trans hR0
  have hsz := hb.size
  rcases hO.2 with ⟨h1, h2⟩ | ⟨g, cap, cur, h1, h2, h3, h4, h5, h6, h7⟩
  · have hxs : xs = [] := List.eq_nil_of_length_eq_zero h2
    subst h1 hxs
    exact k39_new_nil base R none 0 w hR1 hbR (by omega)
  · subst h1
    exact k39_new xs base R g 0 cap w hR1 hbR (range_of_owns h3 h7) (Array.getElem?_eq_some_iff.1 h3).1 (by omega) hx hn (by omega)
end Go.Proofs.YtgknheafkkkjcaaDoor
namespace Go.Proofs.YtgknheafkkkjcaaDoor
open Go.RowKit
attribute [local go_sem ↓] Go.wp_at_zero Go.wp_at_succ
theorem groups_at_seg {w w' : World} {M n : Nat} {D : DataW Unit} {key : Value} {kl : Lit} (h : w.ownsGroups (H := Unit) Tryd.prog 40 (M + 1) 3 .i64 M n D) (hs : w.heap.size ≤ w'.heap.size) (he : ∀ k, M ≤ k → k < w.heap.size → w'.heap[k]? = w.heap[k]?) (hn : n < maxLen) (hkey : keyOf Tryd.prog 40 key = some kl) :
    ∃ v zs, (Instr.lookup 68 (.map (some M)) key false).run Tryd.prog w' = .ok v w' ∧ D.atKey kl .nil = rowDatum .i64 v zs ∧ w'.ownsInts (M + 1) 3 .i64 v zs ∧ zs.length ≤ n ∧ ∀ g, v.ownBlock = some g → M ≤ g ∧ g < w.heap.size := by
  have h' := groups_seg h hs he
  obtain ⟨v, zs, hrun, hat, hoi, hzl, _⟩ := h'.at keyed40 Tryd.underlying68 (zero44 _) hn hkey
  refine ⟨v, zs, hrun, hat, hoi, hzl, ?_⟩
  obtain ⟨es, clock, hb, F, _⟩ := h
  have hb' : w'.heap[M]? = some (.map es clock) := (he M (Nat.le_refl _) (Array.getElem?_eq_some_iff.1 hb).1).trans hb
  obtain ⟨es', clock', hb2, F2, _⟩ := h'
  rw [hb'] at hb2
  simp only [Option.some.injEq, Obj.map.injEq] at hb2
  obtain ⟨rfl, rfl⟩ := hb2
  rcases Maps.fit_look false keyed40 Tryd.underlying68 (zero44 w') hb' F2 hkey with ⟨hr, _, _⟩ | ⟨e0, y, hm0, h3, hr, _⟩
  · rw [hrun] at hr
    obtain rfl : v = .slice none 0 0 := by simpa using hr
    intro g hg
    simp [Value.ownBlock] at hg
  · rw [hrun] at hr
    obtain rfl : v = e0.val := by simpa using hr
    intro g hg
    obtain ⟨y, hy⟩ := F.reads e0 hm0
    obtain ⟨z, hz, _⟩ := WideElems.rd_val hy
    obtain ⟨zs0, ho0, _⟩ := rowElem_inv hz
    have := ho0.1.lt g hg
    exact ⟨by omega, this.2⟩
theorem ints_seg {w w' : World} {base : Nat} {v : Value} {zs : List Int} (h : w.ownsInts base 3 .i64 v zs) (hg : ∀ g, v.ownBlock = some g → w'.heap[g]? = w.heap[g]?) : w'.ownsInts base 3 .i64 v zs := by
  refine ⟨⟨h.1.1, ?_⟩, h.2⟩
  rcases h.1.2 with hh | ⟨g, cap, cur, e1, e2, e3, e4⟩
  · exact .inl hh
  · exact .inr ⟨g, cap, cur, e1, e2, (hg g (by rw [e1]; rfl)).trans e3, e4⟩
set_option maxRecDepth 100000 in
set_option maxHeartbeats 4000000 in
theorem k18 (cs : List Cl) (F : Fits cs) (ls : List (List C)) (v vl : Value) (w : World) (hP : ProgAt w v cs) (hR : RowAt w vl ls) (hS : Signs w) (hls : ls.length ≤ 5864062014805) (hW : ∀ y ∈ calledS ls, wfP y) (hU : (univ cs ls).length ≤ 1000000000) :
    Calls Tryd.prog 18 #[v, vl] w fun e w' => ∃ u acc, e = .returned u ∧ PredsAt w' u acc ∧ Grows cs ls acc ∧ Done cs acc acc.length ∧ (∀ y ∈ acc, wfP y) ∧ Below w.heap.size w w' := by
  have HP : Hid (ProgAt w v cs) := hP
  have HS : Hid (Signs w) := hS
  have HF : Hid (Fits cs) := F
  have HU : Hid ((univ cs ls).length ≤ 1000000000) := hU
  have HWl : Hid (∀ y ∈ calledS ls, wfP y) := hW
  have hb0 : Below w.heap.size w (w.alloc (.cells #[.slice none 0 0, .map none] 66)) := (Below.refl _ w).alloc (Nat.le_refl _) _
  have HB0 : Hid (Below w.heap.size w (w.alloc (.cells #[.slice none 0 0, .map none] 66))) := hb0
  have H38 := k38 ls vl (w.alloc (.cells #[.slice none 0 0, .map none] 66)) (hR.below hb0) (hS.below hb0) hls
  have HR0 : Hid ((w.alloc (.cells #[.slice none 0 0, .map none] 66)).heap[w.heap.size]? = some (.cells #[.slice none 0 0, .map none] 66 (0, 0))) := heap_alloc_new w _
  have HCl : Hid ((calledS ls).length ≤ 1000000000) := by
    have : (calledS ls).length ≤ (univ cs ls).length := by unfold univ; rw [List.length_append]; omega
    exact Nat.le_trans this hU
  obtain ⟨ad, cap, hv⟩ := hP.form
  obtain ⟨adl, capl, hvl⟩ := hR.form
  subst hv hvl
  clear hP hR hS F hW hU hb0
  go_enter Tryd.func18, Tryd.ntmps18
  go_wp2_with fail
  refine H38.mono ?_
  rintro e w1 ⟨u, rfl, hO, hb1⟩
  have H39 := k39_first (calledS ls) w.heap.size w.heap.size w1 _ u HR0.out (Nat.le_refl _) hO hb1 HWl.out (by have := HCl.out; omega) HB0.out.size
  have HB1 : Hid (Below w.heap.size w w1) := HB0.out.trans (hb1.mono HB0.out.size)
  clear hO hb1 H38
  go_wp2_with fail
  refine H39.mono ?_
  rintro e w2 ⟨rfl, ⟨m, lv0, hRS⟩, hb2⟩
  have HB2 : Hid (Below w.heap.size w w2) := HB1.out.trans hb2
  have H40 := k40 cs _ w2 (HP.out.below HB2.out) HF.out.len HF.out.hw
  have HRS : Hid (RowSt w2 w.heap.size w.heap.size m lv0 ((calledS ls).foldl addP [])) := hRS
  clear hRS hb2 H39 HB1
  go_wp2_with fail
  refine H40.mono ?_
  rintro e w3 ⟨rfl, ⟨D, hG, hD⟩, hb3⟩
  have HG : Hid (w3.ownsGroups (H := Unit) Tryd.prog 40 (w2.heap.size + 1) 3 .i64 w2.heap.size cs.length D ∧ GrpOf D cs cs.length) := ⟨hG, hD⟩
  have HB3 : Hid (Below w.heap.size w w3) := HB2.out.trans (hb3.mono HB2.out.size)
  have HRS3 : Hid (RS w3 w3 w.heap.size w.heap.size m w2.heap.size lv0 ((calledS ls).foldl addP [])) := by
    refine ⟨HRS.out.below hb3, Nat.le_refl _, fun k h1 h2 => ⟨rfl, fun e => ?_⟩, ?_, ?_⟩
    · have := (HRS.out.2.2.2.1.lt k e).2; omega
    · exact (Array.getElem?_eq_some_iff.1 HRS.out.1).1
    · obtain ⟨es, ck, hh, _⟩ := HRS.out.2.2.2.2.1
      exact (Array.getElem?_eq_some_iff.1 hh).1
  have hsz3 : w.heap.size ≤ w3.heap.size := HB3.out.size
  clear hG hD hb3 H40 HRS HB2
  generalize w2.heap.size = M at *
  go_wp2_with fail
  go_loopw [7] (fun iv wr => ∃ (i : Nat) (lv : Value) (acc : List Pd), iv = .int .i64 i ∧ i ≤ acc.length ∧ acc.length ≤ (univ cs ls).length ∧ Hid (RS w3 wr w.heap.size w.heap.size m M lv acc ∧ Grows cs ls acc ∧ Done cs acc i) ∧ Below w.heap.size w wr) (fun iv _ => (univ cs ls).length - (intOf iv).toNat)
  case atStart => exact ⟨0, lv0, _, rfl, by omega, (Grows.start cs ls).len, ⟨HRS3.out, Grows.start cs ls, fun j x hj => by omega⟩, HB3.out⟩
  case round =>
    obtain ⟨i, lv, acc, rfl, hia, hau, HI, hbr⟩ := hrel
    have hUn := HU.out
    have hsz := hbr.size
    obtain ⟨cR0, cR1, fR⟩ := HI.out.1.row.cells
    have hlvf : ∃ adv cpv, lv = .slice adv acc.length cpv := by
      rcases HI.out.1.row.2.2.2.1.2 with ⟨h1, h2⟩ | ⟨g, c, cur, h1, _⟩
      · exact ⟨none, 0, by rw [h1, h2]⟩
      · exact ⟨_, _, h1⟩
    obtain ⟨adv, cpv, hlv⟩ := hlvf
    by_cases hlt : i < acc.length
    · have hlt' : (i : Int) < (acc.length : Int) := by omega
      have hi0 : (0 : Int) ≤ (i : Int) := by omega
      have hpa : PredsAt wr lv acc := predsAt_of_owns HI.out.1.row.2.2.2.1 (by have := HU.out; unfold maxLen; omega)
      obtain ⟨pb, po, pc, hpv, q0, q1⟩ := preds_at hpa i hlt
      have hwx : wfP acc[i] := HI.out.1.row.2.2.2.2.2 _ (List.getElem_mem hlt)
      obtain ⟨vz, zs, hrun, hat, hoi, hzl, hown⟩ := groups_at_seg HG.out.1 HI.out.1.size (fun k k1 k2 => (HI.out.1.seg k k1 k2).1) (by have := HF.out.len; unfold maxLen; omega) (key40 acc[i] hwx)
      have hzs : zs = idxG cs acc[i] cs.length := rowG_inv hoi ((HG.out.2.2 acc[i] hwx).symm.trans hat)
      have HInt : Hid (w3.ownsInts (M + 1) 3 .i64 vz zs ∧ ∀ g, vz.ownBlock = some g → M ≤ g ∧ g < w3.heap.size) := ⟨ints_seg hoi (fun g hg => ((HI.out.1.seg g (hown g hg).1 (hown g hg).2).1).symm), hown⟩
      have HAi : Hid (acc[i]? = some acc[i]) := List.getElem?_eq_getElem hlt
      unfold Pd.val at hrun
      obtain ⟨adz, cpz, hvz⟩ := (show IntsAt w3 vz zs from ⟨_, HInt.out.1⟩).form
      have hzl' : zs.length ≤ 1759218604441 := Nat.le_trans hzl HF.out.len
      have HZs : Hid (zs = idxG cs acc[i] cs.length) := hzs
      have HT0 : Hid (∀ k, M ≤ k → k < w3.heap.size → lv.ownBlock ≠ some k) := fun k k1 k2 => (HI.out.1.seg k k1 k2).2
      subst hvz
      rw [hpv] at cR0
      have HLv : Hid (lv = .slice (some ⟨pb, po, none⟩) acc.length pc) := hpv
      clear hoi hat hown hzs hlv hpa hpv
      generalize hxi : acc[i] = x at *
      go_wp2_with fail
      go_loopw [30] (fun jv wr2 => ∃ (j : Nat) (lv2 : Value) (acc2 : List Pd), jv = .int .i64 j ∧ j ≤ zs.length ∧ i < acc2.length ∧ acc2.length ≤ (univ cs ls).length ∧ Hid (RS w3 wr2 w.heap.size w.heap.size m M lv2 acc2 ∧ Grows cs ls acc2 ∧ Done cs acc2 i ∧ acc2[i]? = some x ∧ Half cs acc2 x j) ∧ Below w.heap.size w wr2) (fun jv _ => zs.length - (intOf jv).toNat)
      case atStart => exact ⟨0, lv, acc, rfl, by omega, hlt, hau, ⟨HI.out.1, HI.out.2.1, HI.out.2.2, HAi.out, fun i2 z h => by omega⟩, hbr⟩
      case round =>
        obtain ⟨j, lv2, acc2, rfl, hj, hi2, hau2, HI2, hbr2⟩ := hrel
        have hsz2 := hbr2.size
        by_cases hjt : j < zs.length
        · have hjt' : (j : Int) < (zs.length : Int) := by omega
          have hj0 : (0 : Int) ≤ (j : Int) := by omega
          have hIA : IntsAt wr (.slice adz zs.length cpz) zs := ⟨_, ints_seg HInt.out.1 (fun g hg => (HI2.out.1.seg g (HInt.out.2 g hg).1 (HInt.out.2 g hg).2).1)⟩
          obtain ⟨zb, zc, hzv, cz, _⟩ := ints_at hIA j hjt
          simp only [Value.slice.injEq] at hzv
          obtain ⟨rfl, _, rfl⟩ := hzv
          obtain ⟨n, c, hn, hzn, hcn, hck⟩ := idxG_mem cs x zs[j] cs.length (by rw [← HZs.out]; exact List.getElem_mem hjt)
          have hcm : c ∈ cs := List.mem_of_getElem? hcn
          have hcc : cs[n] = c := by rw [List.getElem?_eq_getElem hn] at hcn; exact Option.some.inj hcn
          obtain ⟨qb, qo, qc, xx, hpv', ⟨p0, p1, p2, p3⟩, ⟨_, _, hbv, _⟩, hbw⟩ := prog_at (HP.out.below hbr2) n hn
          simp only [Value.slice.injEq] at hpv'
          obtain ⟨rfl, _, rfl⟩ := hpv'
          have H38 := k38 c.bs xx.bv wr (hcc ▸ hbv) (HS.out.below hbr2) (HF.out.bl c hcm)
          have hn' : (n : Int) < (cs.length : Int) := by omega
          have hn0 : (0 : Int) ≤ (n : Int) := by omega
          have HNew : Hid (Grows cs ls ((calledS c.bs).foldl addP acc2) ∧ Done cs ((calledS c.bs).foldl addP acc2) i ∧ ((calledS c.bs).foldl addP acc2)[i]? = some x ∧ Half cs ((calledS c.bs).foldl addP acc2) x (j + 1)) := by
            obtain ⟨h1, h2, h3, h4, h5⟩ := HI2.out
            refine ⟨h2.add (List.mem_of_getElem? h4) hcn hck, h3.mono (by omega) _, ((foldP_prefix _ _).2 i hi2).trans h4, h5.mono (z := zs[j]) ?_ ?_⟩
            · rw [← HZs.out]; exact List.getElem?_eq_getElem hjt
            · rw [hzn]; simpa using hcn
          have HBd : Hid (acc2.length + (calledS c.bs).length ≤ 5864062014805 ∧ (∀ y ∈ calledS c.bs, wfP y) ∧ i < ((calledS c.bs).foldl addP acc2).length) := by
            have e1 := called_univ (ls := ls) hcm
            have e2 := HU.out
            have e3 := (foldP_prefix (calledS c.bs) acc2).1
            exact ⟨by omega, HF.out.pw c hcm, by omega⟩
          rw [hzn] at cz
          have HI2r : Hid (RS w3 wr w.heap.size w.heap.size m M lv2 acc2) := HI2.out.1
          clear hIA hzn hcc hck hcm hcn hbv HI2
          go_wp2_with fail
          refine H38.mono ?_
          rintro e w5 ⟨u, rfl, hO, hb5⟩
          have H39 := k39_rs (calledS c.bs) acc2 lv2 w.heap.size w.heap.size m M w3 w5 u wr HI2r.out hO hb5 HBd.out.2.1 HBd.out.1 hsz2
          have HB5 : Hid (Below w.heap.size w w5) := hbr2.trans (hb5.mono hsz2)
          clear hO hb5 H38
          go_wp2_with fail
          refine H39.mono ?_
          rintro e w6 ⟨rfl, ⟨lv', hRS⟩, hb6⟩
          have HN : Hid (RS w3 w6 w.heap.size w.heap.size m M lv' ((calledS c.bs).foldl addP acc2)) := hRS
          have HB6 : Hid (Below w.heap.size w w6) := HB5.out.trans hb6
          clear hRS hb6 H39
          go_wp2_with fail
          go_roundw
          case rel => exact ⟨j + 1, lv', _, by go_num, by omega, HBd.out.2.2, HNew.out.1.len, ⟨HN.out, HNew.out⟩, HB6.out⟩
          case measure => simp [intOf]; omega
        · have hjt' : ¬ ((j : Int) < (zs.length : Int)) := by omega
          have hjz : j = zs.length := by omega
          have HN : Hid (RS w3 wr w.heap.size w.heap.size m M lv2 acc2 ∧ Grows cs ls acc2 ∧ Done cs acc2 (i + 1)) := by
            obtain ⟨h1, h2, h3, h4, h5⟩ := HI2.out
            rw [hjz, HZs.out] at h5
            exact ⟨h1, h2, h3.next h4 h5⟩
          go_wp2_with fail
          go_roundw
          case rel => exact ⟨i + 1, lv2, acc2, by go_num, by omega, hau2, HN, hbr2⟩
          case measure => simp [intOf]; omega
    · have hlt' : ¬ ((i : Int) < (acc.length : Int)) := by omega
      have hil : i = acc.length := by omega
      have HN : Hid (PredsAt wr lv acc ∧ Grows cs ls acc ∧ Done cs acc acc.length ∧ ∀ y ∈ acc, wfP y) := by
        refine ⟨predsAt_of_owns HI.out.1.row.2.2.2.1 (by have := HU.out; unfold maxLen; omega), HI.out.2.1, by have := HI.out.2.2; rwa [hil] at this, HI.out.1.row.2.2.2.2.2⟩
      subst hlv
      clear HI
      go_wp2_with fail
      go_ret
      exact ⟨_, rfl, acc, HN.out.1, HN.out.2.1, HN.out.2.2.1, fun a b h => HN.out.2.2.2 (a, b) h, hbr⟩
end Go.Proofs.YtgknheafkkkjcaaDoor
namespace Go.Proofs.YtgknheafkkkjcaaDoor
open Go.RowKit
theorem calledS_iff (ls : List (List C)) (y : Pd) : y ∈ calledS ls ↔ y ∈ predsOf ls := by
  unfold calledS
  rw [foldP_iff]
  simp
theorem predsOf_append (a b : List (List C)) : predsOf (a ++ b) = predsOf a ++ predsOf b := by
  unfold predsOf
  rw [List.filter_append, List.map_append]
theorem calledS_more (ls : List (List C)) (t : List C) (y : Pd) (h : y ∈ calledS ls) : y ∈ calledS (ls ++ [t]) := by
  rw [calledS_iff] at h ⊢
  rw [predsOf_append]
  exact List.mem_append_left _ h
theorem univ_more (cs : List Cl) (ls : List (List C)) (t : List C) : (univ cs ls).length ≤ (univ cs (ls ++ [t])).length := by
  unfold univ
  rw [List.length_append, List.length_append]
  have e : calledS (ls ++ [t]) = (predsOf [t]).foldl addP (calledS ls) := by
    unfold calledS
    rw [predsOf_append, List.foldl_append]
  have := (foldP_prefix (predsOf [t]) (calledS ls)).1
  rw [e]
  omega
theorem reach_more {cs : List Cl} {ls : List (List C)} {t : List C} {a b : List Pd} (ha : Grows cs ls a) (hb : Grows cs (ls ++ [t]) b) (hD : Done cs b b.length) : ∀ y ∈ a, y ∈ b := by
  refine ha.least (fun y => y ∈ b) (fun y hy => hb.goals y (calledS_more ls t y hy)) ?_
  intro x y hx hl
  obtain ⟨j, hj, rfl⟩ := List.getElem_of_mem hx
  exact hD j _ hj (List.getElem?_eq_getElem hj) y hl
theorem calls_at (cs : List Cl) (n : Nat) (c : Cl) (h : cs[n]? = some c) : callsS cs (n : Int) = calledS c.bs := by
  unfold callsS
  rw [if_pos (by omega)]
  simp [h]
theorem reach_closed {cs : List Cl} {a : List Pd} (hD : Done cs a a.length) (i : Nat) (hi : i < a.length) (z : Int) (hz : z ∈ idxG cs a[i] cs.length) : ∀ y ∈ callsS cs z, y ∈ a := by
  intro y hy
  obtain ⟨n, c, _, rfl, hc, hk⟩ := idxG_mem cs _ z _ hz
  rw [calls_at cs n c hc] at hy
  exact hD i _ hi (List.getElem?_eq_getElem hi) y ⟨n, c, hc, hk, hy⟩
theorem calls_le (cs : List Cl) (z : Int) (B : Nat) (h : ∀ c ∈ cs, c.bs.length ≤ B) : (callsS cs z).length ≤ B := by
  unfold callsS
  split
  · split
    · next c hc => exact Nat.le_trans (calledS_len _) (h c (List.mem_of_getElem? hc))
    · simp
  · simp
theorem idxG_len (cs : List Cl) (x : Pd) (k : Nat) : (idxG cs x k).length ≤ k := by
  induction k with
  | zero => simp [idxG]
  | succ k ih =>
    have e : idxG cs x (k + 1) = match cs[k]? with | some c => if hasK c x then idxG cs x k ++ [(k : Int)] else idxG cs x k | none => idxG cs x k := rfl
    rw [e]
    cases cs[k]? with
    | none => simp only; omega
    | some c =>
      simp only
      split
      · simp; omega
      · omega
end Go.Proofs.YtgknheafkkkjcaaDoor
namespace Go.Proofs.YtgknheafkkkjcaaDoor
open Go.ChangeShapes Go.WideShapes Go.ChangeAt Go.RowKit Go.Joins Go.Deep Go.Proofs.YtgknheafkkkjcaaDoor.Laid
theorem bulk_pos {H : Type} (d : DataW H) : 1 ≤ Rows.uptoBulk d := by
  cases d with
  | lit x => cases x <;> simp [Rows.uptoBulk]
  | _ => simp [Rows.uptoBulk]
theorem bulkAll_len {H : Type} : ∀ ds : List (DataW H), ds.length ≤ Rows.uptoBulkAll ds
  | [] => by simp
  | d :: r => by
    have h1 := bulk_pos d
    have h2 := bulkAll_len r
    simp only [Rows.uptoBulkAll, List.length_cons]
    omega
section
variable {H : Type} {enc : TypeId × Value → H} {w : World} {base : Nat} {sp : Nat → Bool} {held : Bool}
theorem row_bulk {fuel : Nat} {v : Value} {x : DataW H × List MemPlace} {ls : List (List C)}
    (h : DataW.trod enc Tryd.prog w base (fun _ => true) held fuel 36 [v] = some x) (hR : RowAt w v ls) : ls.length ≤ Rows.uptoBulk x.1 := by
  obtain ⟨ad, cp, hf⟩ := hR.form
  rcases open_slice Tryd.underlying36 h with ⟨hcs, hx⟩ | ⟨a, len, cap, m, n, D, Pl, hcs, _, hl, hmx, hm, hx, hel⟩
  · simp only [List.cons.injEq, and_true] at hcs
    rw [hf] at hcs
    simp at hcs
    rw [hcs.2.1]
    simp
  · simp only [List.cons.injEq, and_true] at hcs
    rw [hf] at hcs
    simp at hcs
    rw [hx]
    simp only [Rows.uptoBulk]
    have := bulkAll_len ((List.range len).map D)
    simp only [List.length_map, List.length_range] at this
    omega
/-- All goals of all bodies. -/
def goals (cs : List Cl) : Nat := (cs.map fun c => c.bs.length).sum
theorem goals_bulk : ∀ (cs : List Cl) (D : Nat → DataW H), (∀ i (hi : i < cs.length), cs[i].bs.length ≤ Rows.uptoBulk (D i)) → goals cs ≤ Rows.uptoBulkAll ((List.range cs.length).map D)
  | [], _, _ => by simp [goals]
  | a :: r, D, h => by
    have h1 := h 0 (by simp)
    have h2 := goals_bulk r (fun i => D (i + 1)) (fun i hi => by have := h (i + 1) (by simpa using hi); simpa using this)
    rw [List.length_cons, List.range_succ_eq_map, List.map_cons, List.map_map]
    simp only [Rows.uptoBulkAll, goals, List.map_cons, List.sum_cons] at *
    have e : List.map (D ∘ Nat.succ) (List.range r.length) = List.map (fun i => D (i + 1)) (List.range r.length) := rfl
    rw [e]
    simp at h1
    omega
theorem prog_bulk {fuel : Nat} {v : Value} {x : DataW H × List MemPlace} {cs : List Cl}
    (h : DataW.trod enc Tryd.prog w base (fun _ => true) held fuel 29 [v] = some x) (hP : ProgAt w v cs) : goals cs ≤ Rows.uptoBulk x.1 := by
  obtain ⟨_, hP⟩ := hP
  rcases hP with ⟨rfl, _⟩ | ⟨b, o, cp, xs, hf, _, _, hb, hxl, hr, hC⟩
  · simp [goals]
  rcases open_slice Tryd.underlying29 h with ⟨hcs, hx⟩ | ⟨a, len, cap, m, n, D, Pl, hcs, _, hl, hmx, hm, hx, hel⟩
  · simp only [List.cons.injEq, and_true] at hcs
    rw [hf] at hcs
    cases hcs
  · simp only [List.cons.injEq, and_true] at hcs
    rw [hf] at hcs
    simp only [Value.slice.injEq, Option.some.injEq] at hcs
    obtain ⟨rfl, rfl, rfl⟩ := hcs
    simp only [if_true] at hm
    subst hm
    rw [cells38] at hel
    rw [hx]
    simp only [Rows.uptoBulk]
    have h3 := goals_bulk cs D (fun i hi => by
      obtain ⟨ks, h1, h2⟩ := hel i (by omega)
      obtain ⟨y0, y1, y2, y3, n', hxx, hlk, g0, g1, g2, g3⟩ := trod_struct4 Tryd.underlying38 h2
      rw [cells38] at hlk
      obtain ⟨k0, k1, k2, k3, rfl⟩ := list4 hlk
      simp only [cells36, List.drop_zero, List.drop_succ_cons, List.take_succ_cons, List.take_zero] at g2
      have h3 := (World.cells?_some h1).2.2 2 (by omega)
      obtain ⟨_, _, p2, _⟩ := clause_cells hr i (by omega)
      rw [Addr.add_mid, Addr.add_mid, p2] at h3
      simp at h3
      rw [← h3] at g2
      have hc := hC i xs[i] cs[i] (List.getElem?_eq_getElem (by omega)) (List.getElem?_eq_getElem hi)
      have h4 := row_bulk g2 hc.2.2.1
      have h5 : D i = .agg [y0.1, y1.1, y2.1, y3.1] := congrArg Prod.fst hxx
      rw [h5]
      simp only [Rows.uptoBulk, Rows.uptoBulkAll]
      omega)
    omega
end
theorem univ_goals (cs : List Cl) (ls : List (List C)) : (univ cs ls).length ≤ ls.length + goals cs := by
  unfold univ
  rw [List.length_append]
  have h1 := calledS_len ls
  have h2 : (cs.flatMap fun c => calledS c.bs).length ≤ goals cs := by
    induction cs with
    | nil => simp
    | cons a r ih =>
      have h3 := calledS_len a.bs
      rw [List.flatMap_cons, List.length_append]
      simp only [goals, List.map_cons, List.sum_cons] at *
      omega
  omega
end Go.Proofs.YtgknheafkkkjcaaDoor
namespace Go.Proofs.YtgknheafkkkjcaaDoor
open Go.RowKit
attribute [local go_sem ↓] Go.wp_at_zero Go.wp_at_succ
/-- append of a row that may be nil. -/
theorem wpList_append_any {P : Program} {w : World} {ops : Array Oper} {rest : List Oper} {o : Oper} {a : Act} {Q : Exit → Act → World → Prop} (hgd : o.guard = none) (s x : Operand) (t : TypeId)
    (ho : o.op = .call { callee := .builtin .append, args := #[s, x], argTypes := #[t, t] })
    (base : Nat) (e : TypeId) (i : TypeInfo) (z : Value) (size bytes : Nat) (ht : P.underlying t = some (.slice e)) (hi : P.info? e = some i) (hz : i.zero = some z)
    (hsize : i.size = size) (hby : i.bytes = bytes) (hzs : z.cells.size = size) (hsz : 0 < size)
    (v : Value) (n : Nat) (xs : List Value) (hs : a.eval s = v) (hown : w.ownsRow base e size v n xs)
    (ad : Option Addr) (m c : Nat) (news : List Value) (hx : a.eval x = .slice ad m c) (hm : ad = none → m = 0 ∧ c = 0) (hl : news.length = m * size) (hnews : ∀ b, ad = some b → ∀ j u, news[j]? = some u → w.cell? (b.add j) = some u) (h1 : ∀ u ∈ news, u.oneCell' = true)
    (h63 : n + m ≤ maxLen) (hbytes : (n + m) * bytes ≤ 140737488355328) (hbase : base ≤ w.heap.size)
    (h : ∀ v' w', w'.ownsRow base e size v' (n + m) (xs ++ news) → w.grownBy w' v.ownBlock → wpList P ops Q rest (a.put o.dst v') w') : wpList P ops Q (o :: rest) a w := by
  cases ad with
  | none =>
    obtain ⟨rfl, rfl⟩ := hm rfl
    have hn : news = [] := List.eq_nil_of_length_eq_zero (by simpa using hl)
    subst hn
    exact wpList_append_own_none hgd s x t ho base e i size ht hi v n xs hs hown hx (h v w (by simpa using hown) ⟨rfl, rfl, rfl, Nat.le_refl _, fun _ _ _ => rfl⟩)
  | some b =>
    exact wpList_append_own w hgd s x t ho base e i z size bytes ht hi hz hsize hby hzs hsz v n xs hs hown b m c news hx hl (hnews b rfl) h1 h63 hbytes hbase (fun v' w' h1 h2 _ => h v' w' h1 h2)
theorem row_parts {w : World} {v : Value} {ls : List (List C)} (h : RowAt w v ls) : ∃ (ad : Option Addr) (cap : Nat) (vs : List Value), v = .slice ad ls.length cap ∧ (ad = none → ls.length = 0 ∧ cap = 0) ∧ vs.length = ls.length ∧ (∀ b, ad = some b → ∀ j u, vs[j]? = some u → w.cell? (b.add j) = some u) ∧ (∀ u ∈ vs, u.oneCell' = true) ∧ ∀ (i : Nat) (u : Value) (l : List C), vs[i]? = some u → ls[i]? = some l → TermAt w u l := by
  rcases h.2 with ⟨rfl, ad, rfl⟩ | ⟨b, o, cap, vs, rfl, h1, h2, h3, h4, h5, h6⟩
  · exact ⟨ad, 0, [], rfl, fun _ => ⟨rfl, rfl⟩, rfl, fun _ _ j u hu => by simp at hu, fun u hu => by simp at hu, fun i u l hu => by simp at hu⟩
  · refine ⟨some ⟨b, o, none⟩, cap, vs, rfl, fun e => (by cases e), h4, fun b' e j u hu => ?_, fun u hu => ?_, h6⟩
    · cases e
      rw [Addr.add_mid]; exact h5 j u hu
    · obtain ⟨i, hi, rfl⟩ := List.getElem_of_mem hu
      obtain ⟨a1, c1, e1⟩ := (h6 i _ _ (List.getElem?_eq_getElem hi) (List.getElem?_eq_getElem (by omega))).form
      rw [e1]; rfl
set_option maxRecDepth 100000 in
set_option maxHeartbeats 4000000 in
theorem k5 (cs : List Cl) (F : Fits cs) (ls : List (List C)) (t : List C) (v vl vt : Value) (w : World) (hP : ProgAt w v cs) (hR : RowAt w vl ls) (hT : TermAt w vt t) (hS : Signs w) (hls : ls.length ≤ 5864062014800) (hW : ∀ y ∈ calledS (ls ++ [t]), wfP y) (hU : (univ cs (ls ++ [t])).length ≤ 1000000000) :
    Calls Tryd.prog 5 #[v, vl, vt] w fun e w' => e = .returned (.bool true) ∧ Below w.heap.size w w' := by
  have HP : Hid (ProgAt w v cs) := hP
  have HR : Hid (RowAt w vl ls) := hR
  have HT : Hid (TermAt w vt t) := hT
  have HS : Hid (Signs w) := hS
  have HF : Hid (Fits cs) := F
  have HU : Hid ((univ cs (ls ++ [t])).length ≤ 1000000000) := hU
  have HW : Hid (∀ y ∈ calledS (ls ++ [t]), wfP y) := hW
  have H7 := k7 w hS
  obtain ⟨i0, hi, hz, hs, hby⟩ := info29
  obtain ⟨ad, cap, hv⟩ := hP.form
  obtain ⟨adl, capl, vs, hvl, hadl, hvs, _, honev, _⟩ := row_parts hR
  obtain ⟨adt, capt, hvt⟩ := hT.form
  subst hv hvl hvt
  clear hP hR hT hS F hW hU
  go_enter Tryd.func5, Tryd.ntmps5
  go_wp2_with fail
  refine H7.mono ?_
  rintro e w1 ⟨rfl, hb1⟩
  have HB1 : Hid (Below w.heap.size w w1) := hb1
  have H18a := k18 cs HF.out ls _ _ w1 (HP.out.below hb1) (HR.out.below hb1) (HS.out.below hb1) (by omega) (fun y hy => HW.out y (calledS_more ls t y hy)) (Nat.le_trans (univ_more cs ls t) HU.out)
  clear hb1 H7
  go_wp2_with fail
  refine H18a.mono ?_
  rintro e w2 ⟨u1, acc1, rfl, hA1, hG1, hD1, hwf1, hb2⟩
  have HB2 : Hid (Below w.heap.size w w2) := HB1.out.trans (hb2.mono HB1.out.size)
  have HA1 : Hid (PredsAt w2 u1 acc1 ∧ Grows cs ls acc1 ∧ Done cs acc1 acc1.length ∧ ∀ y ∈ acc1, wfP y) := ⟨hA1, hG1, hD1, hwf1⟩
  obtain ⟨ad1, cap1, hu1⟩ := hA1.form
  subst hu1
  clear hA1 hG1 hD1 hwf1 hb2 HB1 H18a
  have HOw0 : Hid ((w2.alloc (.cells #[] 23)).ownsRow w2.heap.size 23 1 (.slice (some ⟨w2.heap.size, 0, none⟩) 0 0) 0 []) := ⟨rfl, .inr ⟨w2.heap.size, 0, #[], rfl, Nat.le_refl _, heap_alloc_new w2 _, Nat.le_refl _, by unfold maxLen; omega, rfl, rfl⟩⟩
  have hb2a : Below w2.heap.size w2 (w2.alloc (.cells #[] 23)) := (Below.refl _ _).alloc (Nat.le_refl _) _
  have HBa : Hid (Below w.heap.size w (w2.alloc (.cells #[] 23))) := HB2.out.trans (hb2a.mono HB2.out.size)
  obtain ⟨_, _, vs', hvl', _, hvs', hcv, hone, htv⟩ := row_parts HR.out
  simp only [Value.slice.injEq] at hvl'
  obtain ⟨rfl, _, rfl⟩ := hvl'
  have HCv : Hid (∀ b, adl = some b → ∀ j u, vs'[j]? = some u → (w2.alloc (.cells #[] 23)).cell? (b.add j) = some u) := fun b hb j u hu => by
    have h1 := hcv b hb j u hu
    exact (HBa.out.cell (p := b.add j) (World.block_lt_of_cell? w _ h1)).trans h1
  have HVs : Hid (vs'.length = ls.length * 1 ∧ (∀ u ∈ vs', u.oneCell' = true) ∧ ∀ (i : Nat) (u : Value) (l : List C), vs'[i]? = some u → ls[i]? = some l → TermAt w u l) := ⟨by omega, hone, htv⟩
  clear hvs hvs' hcv hone htv honev
  go_wp2_with (at_builtin; refine wpList_append_any rfl _ _ 36 rfl w2.heap.size 23 i0 (.slice none 0 0) 1 24 Tryd.underlying36 hi hz hs hby rfl (by decide) _ _ _ rfl HOw0.out adl ls.length capl vs' rfl hadl HVs.out.1 HCv.out HVs.out.2.1 (by unfold maxLen; omega) (by omega) (by simp) ?_)
  intro v3 w3 hown3 hgr3
  have hb3 : Below w2.heap.size w2 w3 := hb2a.grown hgr3 (by simp) (fun g hg => by simp [Value.ownBlock] at hg; omega)
  have HB3 : Hid (Below w.heap.size w w3) := HB2.out.trans (hb3.mono HB2.out.size)
  have HOw3 : Hid ((w3.alloc (.cells #[.slice adt t.length capt] 23)).ownsRow w2.heap.size 23 1 v3 ls.length vs') := hown3.alloc _
  have hb3a : Below w2.heap.size w2 (w3.alloc (.cells #[.slice adt t.length capt] 23)) := hb3.alloc hb3.size _
  have hsz3 : w2.heap.size ≤ w3.heap.size := hb3.size
  clear hown3 hgr3 hb2a HBa HCv HOw0
  have HNew : Hid (∀ j u, [(.slice adt t.length capt : Value)][j]? = some u → (w3.alloc (.cells #[.slice adt t.length capt] 23)).cell? ((⟨w3.heap.size, 0, none⟩ : Addr).add j) = some u) := fun j u hu => by
    rw [Addr.add_mid]
    exact range_new w3 [.slice adt t.length capt] 23 j u hu
  go_wp2_with (at_builtin; refine wpList_append_own _ rfl _ _ 36 rfl w2.heap.size 23 i0 (.slice none 0 0) 1 24 Tryd.underlying36 hi hz hs hby rfl (by decide) _ _ _ rfl HOw3.out ⟨w3.heap.size, 0, none⟩ 1 1 [.slice adt t.length capt] rfl rfl HNew.out (fun x hx => by simp at hx; subst hx; rfl) (by unfold maxLen; omega) (by omega) (by simp; omega) ?_)
  intro v4 w4 hown4 hgr4 _
  have hb4 : Below w2.heap.size w2 w4 := hb3a.grown hgr4 (by simp; omega) (fun g hg => (HOw3.out.lt g hg).1)
  have HB4 : Hid (Below w.heap.size w w4) := HB2.out.trans (hb4.mono HB2.out.size)
  have HR4 : Hid (RowAt w4 v4 (ls ++ [t])) := by
    refine rowAt_of_owns (base := w2.heap.size) (vs := vs' ++ [.slice adt t.length capt]) ?_ (by simp) (by simp [maxLen]; omega) ?_
    · rw [List.length_append, List.length_singleton]
      exact hown4
    · intro i u l hu hl
      have hvl := HVs.out.1
      by_cases hi' : i < ls.length
      · rw [List.getElem?_append_left (by omega)] at hu
        rw [List.getElem?_append_left hi'] at hl
        exact (HVs.out.2.2 i u l hu hl).below HB4.out
      · rw [List.getElem?_append_right (by omega)] at hu
        rw [List.getElem?_append_right (by omega)] at hl
        have hi0 : i - ls.length = 0 := by
          have := (List.getElem?_eq_some_iff.1 hl).1
          simp at this; omega
        rw [show vs'.length = ls.length by omega, hi0] at hu
        rw [hi0] at hl
        simp at hu hl
        subst hu hl
        exact HT.out.below HB4.out
  have HA4 : Hid (PredsAt w4 (.slice ad1 acc1.length cap1) acc1) := HA1.out.1.below hb4
  have H18b := k18 cs HF.out (ls ++ [t]) _ v4 w4 (HP.out.below HB4.out) HR4.out (HS.out.below HB4.out) (by simp; omega) HW.out HU.out
  clear hown4 hgr4 hb4 hb3 hb3a HOw3 HNew HVs hsz3 HB3
  go_wp2_with fail
  refine H18b.mono ?_
  rintro e w5 ⟨u2, acc2, rfl, hA2, hG2, hD2, hwf2, hb5⟩
  have HB5 : Hid (Below w.heap.size w w5) := HB4.out.trans (hb5.mono HB4.out.size)
  have HA5 : Hid (PredsAt w5 (.slice ad1 acc1.length cap1) acc1) := HA4.out.below hb5
  have HM : Hid (∀ y ∈ acc1, y ∈ acc2) := reach_more HA1.out.2.1 hG2 hD2
  have HC : Hid (∀ (i : Nat) (h : i < acc1.length) (z : Int), z ∈ idxG cs acc1[i] cs.length → ∀ y ∈ callsS cs z, y ∈ acc1) := fun i h z hz => reach_closed HA1.out.2.2.1 i h z hz
  have HWf : Hid (∀ y ∈ acc1, wfP y) := HA1.out.2.2.2
  have HL : Hid (acc1.length ≤ 1000000000 ∧ acc2.length ≤ 1000000000) := ⟨Nat.le_trans HA1.out.2.1.len (Nat.le_trans (univ_more cs ls t) HU.out), Nat.le_trans hG2.len HU.out⟩
  obtain ⟨ad2, cap2, hu2⟩ := hA2.form
  have HA2 : Hid (PredsAt w5 u2 acc2) := hA2
  subst hu2
  clear hA2 hG2 hD2 hwf2 hb5 HB4 H18b HA4 HA1 HR4 HB2
  go_wp2_with fail
  go_loopw [9] (fun iv wr => ∃ i : Nat, i ≤ acc1.length ∧ iv = .int .i64 i ∧ Below w5.heap.size w5 wr) (fun iv _ => acc1.length - (intOf iv).toNat)
  case atStart => exact ⟨0, by omega, rfl, Below.refl _ _⟩
  case round =>
    obtain ⟨i, hia, rfl, hbr⟩ := hrel
    have hLl := HL.out
    by_cases hlt : i < acc1.length
    · have hlt' : (i : Int) < (acc1.length : Int) := by omega
      have hi0 : (0 : Int) ≤ (i : Int) := by omega
      have hHas : hasP acc2 acc1[i] = true := (hasP_iff _ _).2 (HM.out _ (List.getElem_mem hlt))
      obtain ⟨pb, po, pc, hpv, d0, d1⟩ := preds_at (HA5.out.below hbr) i hlt
      have hpb : pb < wr.heap.size := World.block_lt_of_cell? wr _ d0
      simp only [Value.slice.injEq] at hpv
      obtain ⟨rfl, _, rfl⟩ := hpv
      have H19 := k19 acc2 acc1[i] _ wr (HA2.out.below hbr) (by omega)
      rw [hHas] at H19
      have HX : Hid (wfP acc1[i] ∧ ∀ z : Int, z ∈ idxG cs acc1[i] cs.length → ∀ y ∈ callsS cs z, y ∈ acc1) := ⟨HWf.out _ (List.getElem_mem hlt), HC.out i hlt⟩
      clear hHas
      generalize acc1[i] = x at *
      go_wp2_with fail
      refine H19.mono ?_
      rintro e w6 ⟨rfl, hb6⟩
      have e0 : w6.cell? ⟨pb, po + i * 2, none⟩ = some (.string x.1) := (hb6.cell (p := ⟨pb, po + i * 2, none⟩) hpb).trans d0
      have e1 : w6.cell? ⟨pb, po + i * 2 + 1, none⟩ = some (.int .i64 x.2) := (hb6.cell (p := ⟨pb, po + i * 2 + 1, none⟩) hpb).trans d1
      have HB6 : Hid (Below w5.heap.size w5 w6) := hbr.trans (hb6.mono hbr.size)
      have HBw6 : Hid (Below w.heap.size w w6) := HB5.out.trans (HB6.out.mono HB5.out.size)
      have H20 : Hid (∀ W, Below w6.heap.size w6 W → Calls Tryd.prog 20 #[.slice ad cs.length cap, .string x.1, .int .i64 x.2] W fun e w' => ∃ u, e = .returned u ∧ IntsAt w' u (idxG cs x cs.length) ∧ Below W.heap.size W w') := fun W hW => k20 cs _ x W ((HP.out.below HBw6.out).below hW) HF.out.len HF.out.hw HX.out.1
      clear d0 d1 hb6 H19
      go_wp2_with fail
      first
        | go_region_with (go_at_call 20; refine (H20.out _ (Below.drew (Below.refl _ _))).mono ?_; rintro e w7 ⟨u7, rfl, hI7, hb7⟩)
        | fail
      all_goals (
        have hbw67 : Below w6.heap.size w6 w7 := (Below.drew (Below.refl _ _)).trans hb7
        have HB7 : Hid (Below w5.heap.size w5 w7) := HB6.out.trans (hbw67.mono HB6.out.size)
        have HBw7 : Hid (Below w.heap.size w w7) := HBw6.out.trans (hbw67.mono HBw6.out.size)
        have hzl := idxG_len cs x cs.length
        have hcl := HF.out.len
        have HZ : Hid (∀ z : Int, z ∈ idxG cs x cs.length → ∀ y ∈ callsS cs z, y ∈ acc1) := HX.out.2
        clear hbw67 hb7 e0 e1 H20 HX
        obtain ⟨zs, hzs⟩ : ∃ zs, idxG cs x cs.length = zs := ⟨_, rfl⟩
        rw [hzs] at hI7 hzl HZ
        clear hzs
        obtain ⟨a7, c7, hu7⟩ := hI7.form
        have HI7 : Hid (IntsAt w7 u7 zs) := hI7
        subst hu7
        clear hI7
        go_wp2_with fail
        go_loopw [11] (fun kv wr => ∃ k : Nat, k ≤ zs.length ∧ kv = .int .i64 k ∧ Below w7.heap.size w7 wr) (fun kv _ => zs.length - (intOf kv).toNat)
        case atStart => exact ⟨0, by omega, rfl, Below.refl _ _⟩
        case round =>
          obtain ⟨k, hk, rfl, hbr2⟩ := hrel
          by_cases hkt : k < zs.length
          · have hkt' : (k : Int) < (zs.length : Int) := by omega
            have hk0 : (0 : Int) ≤ (k : Int) := by omega
            obtain ⟨zb, zc, hzv, cz, _⟩ := ints_at (HI7.out.below hbr2) k hkt
            simp only [Value.slice.injEq] at hzv
            obtain ⟨rfl, _, rfl⟩ := hzv
            have HBr : Hid (Below w.heap.size w wr) := HBw7.out.trans (hbr2.mono HBw7.out.size)
            have H16 := k16 cs _ zs[k] wr (HP.out.below HBr.out) (HS.out.below HBr.out) HF.out.bl
            have HD : Hid (∀ y ∈ callsS cs zs[k], y ∈ acc1) := HZ.out _ (List.getElem_mem hkt)
            have hdl := calls_le cs zs[k] 5864062014805 HF.out.bl
            generalize zs[k] = z at *
            obtain ⟨ds, hds⟩ : ∃ ds, callsS cs z = ds := ⟨_, rfl⟩
            rw [hds] at H16 HD hdl
            clear hds
            go_wp2_with fail
            refine H16.mono ?_
            rintro e w8 ⟨u8, rfl, hO, hb8⟩
            have hP8 : PredsAt w8 u8 ds := predsAt_of_owns hO (by unfold maxLen; omega)
            have HB8 : Hid (Below w7.heap.size w7 w8) := hbr2.trans (hb8.mono hbr2.size)
            have HA8 : Hid (PredsAt w8 (.slice (some ⟨pb, po, none⟩) acc1.length cap1) acc1) := HA5.out.below (HB7.out.trans (HB8.out.mono HB7.out.size))
            obtain ⟨a8, c8, hu8⟩ := hP8.form
            have HP8 : Hid (PredsAt w8 u8 ds) := hP8
            subst hu8
            clear hO hb8 hP8 H16 cz
            go_wp2_with fail
            go_loopw [13] (fun nv wr => ∃ n : Nat, n ≤ ds.length ∧ nv = .int .i64 n ∧ Below w8.heap.size w8 wr) (fun nv _ => ds.length - (intOf nv).toNat)
            case atStart => exact ⟨0, by omega, rfl, Below.refl _ _⟩
            case round =>
              obtain ⟨n, hn, rfl, hbr3⟩ := hrel
              by_cases hnt : n < ds.length
              · have hnt' : (n : Int) < (ds.length : Int) := by omega
                have hn0 : (0 : Int) ≤ (n : Int) := by omega
                obtain ⟨qb, qo, qc, hqv, q0, q1⟩ := preds_at (HP8.out.below hbr3) n hnt
                simp only [Value.slice.injEq] at hqv
                obtain ⟨rfl, _, rfl⟩ := hqv
                have hHas : hasP acc1 ds[n] = true := (hasP_iff _ _).2 (HD.out _ (List.getElem_mem hnt))
                have H19 := k19 acc1 ds[n] _ wr (HA8.out.below hbr3) (by omega)
                rw [hHas] at H19
                clear hHas
                generalize ds[n] = y at *
                go_wp2_with fail
                refine H19.mono ?_
                rintro e w9 ⟨rfl, hb9⟩
                go_wp2_with fail
                go_roundw
                case rel => exact ⟨n + 1, by omega, by go_num, hbr3.trans (hb9.mono hbr3.size)⟩
                case measure => simp [intOf]; omega
              · have hnt' : ¬ ((n : Int) < (ds.length : Int)) := by omega
                go_wp2_with fail
                go_roundw
                case rel => exact ⟨k + 1, by omega, by go_num, HB8.out.trans (hbr3.mono HB8.out.size)⟩
                case measure => simp [intOf]; omega
          · have hkt' : ¬ ((k : Int) < (zs.length : Int)) := by omega
            go_wp2_with fail
            go_roundw
            case rel => exact ⟨i + 1, by omega, by go_num, HB7.out.trans (hbr2.mono HB7.out.size)⟩
            case measure => simp [intOf]; omega)
    · have hlt' : ¬ ((i : Int) < (acc1.length : Int)) := by omega
      go_wp2_with fail
      go_ret
      exact ⟨rfl, HB5.out.trans (hbr.mono HB5.out.size)⟩
end Go.Proofs.YtgknheafkkkjcaaDoor
