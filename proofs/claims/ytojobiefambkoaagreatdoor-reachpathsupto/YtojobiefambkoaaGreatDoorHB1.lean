/- Contract of Bindings: how many there are. -/
import Derived.Test.YtojobiefambkoaaGreatDoorKB
import Derived.Test.YtojobiefambkoaaGreatDoorHP6
import Derived.Deep.RegionLaw
import Derived.OwnWalk
import Derived.Sort.OwnSorted

namespace Go.Proofs.YtojobiefambkoaaGreatDoor
open Go.RowKit
attribute [local go_sem ↓] Go.wp_at_zero Go.wp_at_succ
theorem step_append_own {P : Program} {ops : Array Oper} {o : Oper} {a : Act} {w : World} {K : Act → World → Prop} {Q : Exit → Act → World → Prop} {E : Prop} (hgd : o.guard = none) (s x : Operand) (t : TypeId)
    (ho : o.op = .call { callee := .builtin .append, args := #[s, x], argTypes := #[t, t] })
    (base : Nat) (e : TypeId) (i : TypeInfo) (z : Value) (size bytes : Nat) (ht : P.underlying t = some (.slice e)) (hi : P.info? e = some i) (hz : i.zero = some z)
    (hsize : i.size = size) (hby : i.bytes = bytes) (hzs : z.cells.size = size) (hsz : 0 < size)
    (v : Value) (n : Nat) (xs : List Value) (hs : a.eval s = v) (hown : w.ownsRow base e size v n xs)
    (ad : Addr) (m c : Nat) (news : List Value) (hx : a.eval x = .slice (some ad) m c) (hl : news.length = m * size) (hnews : ∀ j u, news[j]? = some u → w.cell? (ad.add j) = some u) (h1 : ∀ u ∈ news, u.oneCell' = true)
    (h63 : n + m ≤ maxLen) (hbytes : (n + m) * bytes ≤ 140737488355328) (hbase : base ≤ w.heap.size)
    (h : ∀ v' w', w'.ownsRow base e size v' (n + m) (xs ++ news) → w.grownBy w' v.ownBlock → (v' = .slice none 0 0 ↔ v = .slice none 0 0 ∧ m = 0) → K (a.put o.dst v') w') :
    if Region.wanted o (yielded ops a.tmps) = true then Oper.wp P o a w K Q else E := by
  have hw : Region.wanted o (yielded ops a.tmps) = true := by simp [Region.wanted, hgd]
  rw [if_pos hw]
  exact wp_append_own w s x t ho base e i z size bytes ht hi hz hsize hby hzs hsz v n xs hs hown ad m c news hx hl hnews h1 h63 hbytes hbase h
theorem info66 : ∃ i, Tryz.prog.info? 66 = some i ∧ i.zero = some (.agg #[.int .i64 0, .int .i64 0, .slice none 0 0]) ∧ i.size = 3 ∧ i.bytes = 40 := by
  have h : (Tryz.prog.info? 66).map (fun i => (i.zero, i.size, i.bytes)) = some (some (.agg #[.int .i64 0, .int .i64 0, .slice none 0 0]), 3, 40) := by kernel_rfl
  cases hq : Tryz.prog.info? 66 with
  | none => rw [hq] at h; cases h
  | some i =>
    rw [hq] at h
    simp only [Option.map_some, Option.some.injEq, Prod.mk.injEq] at h
    exact ⟨i, rfl, h.1, h.2.1, h.2.2⟩
theorem HpAt.look1 {w : World} {hb M n : Nat} {D : DataW Value} {m : Hp} (h : HpAt w hb M n D m) (x : Nm) (hx : wfN x) (hD : Maps.has D (kLit x) = true) : ∃ u l, (Instr.lookup 92 (.map (some M)) (.agg #[.int .i64 x.1, .int .i64 x.2]) false).run Tryz.prog w = .ok u w ∧ lookH m x = some l ∧ TermAt w u l := by
  obtain ⟨u, ps, hrun, hR⟩ := h.map.lookup keyed23 Tryz.underlying92 (zeroT w) (show heldElem (.slice none 0 0) = some (.held (.slice none 0 0), []) from rfl) (key23 x hx)
  have hu : DataW.held u = D.atKey (kLit x) (.held (.slice none 0 0)) := by
    have h1 : heldElem u = some (DataW.held u, []) := rfl
    rw [h1] at hR
    simp only [Option.some.injEq, Prod.mk.injEq] at hR
    exact hR.1
  cases hl : lookH m x with
  | none =>
    have h0 := h.no x hx hl
    rw [hD] at h0
    cases h0
  | some l =>
    obtain ⟨v, h1, h2⟩ := h.yes x l hx hl
    rw [h1] at hu
    cases hu
    exact ⟨_, l, hrun, rfl, h2⟩
/-- A row of names that can be read. -/
theorem keys_at {w wr : World} {B : Nat} {a : Option Addr} {c : Nat} {xs : List Nm} (h : w.ownsRow B 49 2 (.slice a xs.length c) xs.length (xs.flatMap encM)) (hb : Below w.heap.size w wr) {k : Nat} (hk : k < xs.length) : ∃ g, a = some ⟨g, 0, none⟩ ∧ wr.cell? ⟨g, k * 2, none⟩ = some (.int .i64 xs[k].1) ∧ wr.cell? ⟨g, k * 2 + 1, none⟩ = some (.int .i64 xs[k].2) := by
  rcases h.2 with ⟨_, h0⟩ | ⟨g, cap, cur, e, _, h2, _, _, _, h6⟩
  · omega
  · simp only [Value.slice.injEq] at e
    have key : ∀ j, j < 2 → ∀ v, (encM xs[k])[j]? = some v → wr.cell? ⟨g, k * 2 + j, none⟩ = some v := fun j hj v hv => by
      have hlt : k * 2 + j < xs.length * 2 := by omega
      have h3 : (xs.flatMap encM)[k * 2 + j]? = some v := by
        rw [flatMap_get encM_len xs (k * 2 + j) hlt]
        have d1 : (k * 2 + j) / 2 = k := by omega
        have d2 : (k * 2 + j) % 2 = j := by omega
        rw [d1, d2, getElem!_pos xs k hk]
        obtain ⟨hl, he⟩ := List.getElem?_eq_some_iff.1 hv
        rw [getElem!_pos (encM xs[k]) j hl, he]
      rw [← h6, List.getElem?_take_of_lt hlt] at h3
      have hg : wr.heap[g]? = some (.cells cur 49 (0, 0)) := (hb.block g (Array.getElem?_eq_some_iff.1 h2).1).trans h2
      rw [cell_of_row wr g _ _ 49 (0, 0) hg, ← Array.getElem?_toList]
      exact h3
    exact ⟨g, e.1, key 0 (by omega) _ rfl, key 1 (by omega) _ rfl⟩
/-- While the keys are gone through. -/
def BiI (w1 wr : World) (v : Value) (k : Nat) : Prop := Below w1.heap.size w1 wr ∧ ∃ vs, wr.ownsRow w1.heap.size 66 3 v k vs
theorem stored23 {wr U : World} {vb : Nat} {x y : Value} (hU : wr.alloc (.cells #[.int .i64 0, .int .i64 0] 49) = U) (hvb : wr.heap.size = vb) :
    (U.cell? ⟨vb, 0, none⟩ = some (.int .i64 0) ∧ U.cell? ⟨vb, 1, none⟩ = some (.int .i64 0) ∧ U.frozen? ⟨vb, 0, none⟩ = false ∧ U.frozen? ⟨vb, 1, none⟩ = false) ∧ ∀ V, (U.setCell ⟨vb, 0, none⟩ x).setCell ⟨vb, 1, none⟩ y = V → Below wr.heap.size wr V ∧ V.heap[vb]? = some (.cells #[x, y] 49 (0, 0)) := by
  have hc : U.heap[vb]? = some (.cells #[.int .i64 0, .int .i64 0] 49 (0, 0)) := by rw [← hU, ← hvb]; exact heap_alloc_new wr _
  have h1 : Below wr.heap.size wr U := by rw [← hU]; exact (Below.refl _ _).alloc (Nat.le_refl _) _
  have h0 : wr.heap.size ≤ vb := by omega
  have e1 := heap_setCell_same U vb 0 _ 49 x hc
  have e2 := heap_setCell_same _ vb 1 _ 49 y e1
  refine ⟨⟨by rw [cell_of_row U vb 0 _ 49 (0, 0) hc]; rfl, by rw [cell_of_row U vb 1 _ 49 (0, 0) hc]; rfl, frozen_of_row U vb 0 _ 49 hc, frozen_of_row U vb 1 _ 49 hc⟩, fun V hV => ?_⟩
  rw [← hV]
  exact ⟨(h1.setCell (p := ⟨vb, 0, none⟩) h0 _).setCell (p := ⟨vb, 1, none⟩) h0 _, e2⟩
theorem box_kept {V w5 : World} {vb : Nat} {y1 y2 : Int} (h : V.heap[vb]? = some (.cells #[.int .i64 y1, .int .i64 y2] 49 (0, 0))) (hb : Below V.heap.size V w5) : w5.cell? ⟨vb, 0, none⟩ = some (.int .i64 y1) ∧ w5.cell? ⟨vb, 1, none⟩ = some (.int .i64 y2) := by
  have hg : w5.heap[vb]? = some (.cells #[.int .i64 y1, .int .i64 y2] 49 (0, 0)) := (hb.block vb (Array.getElem?_eq_some_iff.1 h).1).trans h
  exact ⟨by rw [cell_of_row w5 vb 0 _ 49 (0, 0) hg]; rfl, by rw [cell_of_row w5 vb 1 _ 49 (0, 0) hg]; rfl⟩
theorem keep_row {w1 V w5 : World} {v : Value} {k : Nat} {o : Obj} (h : ∃ vs, V.ownsRow w1.heap.size 66 3 v k vs) (hb : Below V.heap.size V w5) : ∃ vs, Hid ((w5.alloc o).ownsRow w1.heap.size 66 3 v k vs) := by
  obtain ⟨vs, h1, h2⟩ := h
  refine ⟨vs, h1, ?_⟩
  rcases h2 with e | ⟨g2, cap, cur, e, t1, t2, t3⟩
  · exact .inl e
  · have hg : w5.heap[g2]? = some (.cells cur 66 (0, 0)) := (hb.block g2 (Array.getElem?_eq_some_iff.1 t2).1).trans t2
    exact .inr ⟨g2, cap, cur, e, t1, by rw [heap_alloc_old _ _ (Array.getElem?_eq_some_iff.1 hg).1]; exact hg, t3⟩
theorem new_row {w1 V w5 : World} {y1 y2 : Int} {ta : Option Addr} {tn tc : Nat} (hB : Below w1.heap.size w1 V) (hb : Below V.heap.size V w5) :
    Hid ((∀ j u, ([.int .i64 y1, .int .i64 y2, .slice ta tn tc] : List Value)[j]? = some u → (w5.alloc (.cells #[.int .i64 y1, .int .i64 y2, .slice ta tn tc] 66)).cell? ((⟨w5.heap.size, 0, none⟩ : Addr).add j) = some u) ∧ (∀ u ∈ ([.int .i64 y1, .int .i64 y2, .slice ta tn tc] : List Value), u.oneCell' = true) ∧ w1.heap.size ≤ (w5.alloc (.cells #[.int .i64 y1, .int .i64 y2, .slice ta tn tc] 66)).heap.size) := by
  refine ⟨fun j u hu => ?_, fun u hu => ?_, ?_⟩
  · rw [Addr.add_mid, Nat.zero_add, cell_of_row _ w5.heap.size j _ 66 (0, 0) (heap_alloc_new w5 _)]
    simpa using hu
  · simp at hu
    rcases hu with rfl | rfl | rfl <;> rfl
  · have h1 := hB.size
    have h2 := hb.size
    simp
    omega
theorem next_row {w1 V w5 w8 : World} {v v8 : Value} {k : Nat} {o : Obj} {vs news : List Value} (hB : Below w1.heap.size w1 V) (hb : Below V.heap.size V w5) (hR : (w5.alloc o).ownsRow w1.heap.size 66 3 v k vs) (ho : w8.ownsRow w1.heap.size 66 3 v8 (k + 1) (vs ++ news)) (hg : (w5.alloc o).grownBy w8 v.ownBlock) :
    ∃ va' vc', v8 = .slice va' (k + 1) vc' ∧ Hid (BiI w1 w8 (.slice va' (k + 1) vc') (k + 1)) := by
  have hsl : ∃ a' c', v8 = .slice a' (k + 1) c' := by
    rcases ho.2 with ⟨_, e⟩ | ⟨g, cap, cur, e, _⟩
    · omega
    · exact ⟨_, _, e⟩
  obtain ⟨a', c', rfl⟩ := hsl
  have b2 : Below w1.heap.size w1 (w5.alloc o) := (hB.trans (hb.mono hB.size)).alloc (Nat.le_trans hB.size hb.size) _
  refine ⟨a', c', rfl, ⟨hg.os.trans b2.os, hg.tape.trans b2.tape, hg.output.trans b2.output, Nat.le_trans b2.size hg.size, fun j hj => (hg.block j (Nat.lt_of_lt_of_le hj b2.size) (row_ne_low hR hj)).trans (b2.block j hj)⟩, _, ho⟩
set_option maxRecDepth 100000 in
set_option maxHeartbeats 4000000 in
theorem h12 (m : Hp) (hb M n : Nat) (D : DataW Value) (w : World) (hH : HpAt w hb M n D m) (hn : n ≤ 1000000) (hbm : ∀ x l, lookH m x = some l → l.length * 48 ≤ 140737488355328) :
    Calls Tryz.prog 34 #[.pointer (some ⟨hb, 0, none⟩)] w fun e w' => ∃ a k c, e = .returned (.slice a k c) ∧ Hid ((∃ xs, UpK D xs ∧ xs.length = k) ∧ Below w.heap.size w w') := by
  obtain ⟨i0, hi0, hz0, hsz0, hby0⟩ := info66
  have HH : Hid (HpAt w hb M n D m ∧ ∀ x l, lookH m x = some l → l.length * 48 ≤ 140737488355328) := ⟨hH, hbm⟩
  have H31 : Calls Tryz.prog 67 #[.map (some M)] w fun e w' => ∃ a k c, e = .returned (.slice a k c) ∧ Hid (∃ xs, UpK D xs ∧ xs.length = k ∧ k ≤ 1000000 ∧ w'.ownsRow w.heap.size 49 2 (.slice a k c) k (xs.flatMap encM) ∧ Below w.heap.size w w') := by
    refine (y31 M n D w hH.map (by omega)).mono ?_
    rintro e w' ⟨u, rfl, xs, ⟨h1, h2⟩, ⟨a, c, rfl⟩, h3, h4⟩
    exact ⟨a, _, c, rfl, xs, h1, rfl, by omega, h3, h4⟩
  have c0 := hH.cell
  clear hH hbm
  go_enter Tryz.func34, Tryz.ntmps34
  go_wp2_with fail
  refine H31.mono ?_
  rintro e w1 ⟨ka, kn, kc, rfl, H1⟩
  clear H31 c0
  obtain ⟨xs, HX⟩ : ∃ xs, Hid (UpK D xs ∧ xs.length = kn ∧ kn ≤ 1000000 ∧ w1.ownsRow w.heap.size 49 2 (.slice ka kn kc) kn (xs.flatMap encM) ∧ Below w.heap.size w w1) := H1.out
  clear H1
  obtain rfl : kn = xs.length := HX.out.2.1.symm
  have hkn : xs.length ≤ 1000000 := HX.out.2.2.1
  have HI0 : Hid (BiI w1 w1 (.slice none 0 0) 0) := ⟨Below.refl _ _, [], World.ownsRow_nil _ _ _ _⟩
  go_wp2_with fail
  go_loopw [3, 14] (fun sl si wr => ∃ (k : Nat) (va : Option Addr) (vc : Nat), k ≤ xs.length ∧ sl = .slice va k vc ∧ si = .int .i64 k ∧ Hid (BiI w1 wr (.slice va k vc) k)) (fun _ si _ => xs.length - (intOf si).toNat)
  case atStart => exact ⟨0, none, 0, Nat.zero_le _, rfl, rfl, HI0⟩
  case round =>
    clear HI0
    obtain ⟨k, va, vc, hk, rfl, rfl, HK⟩ := hrel
    by_cases hlt : k < xs.length
    · have hltI : (k : Int) < (xs.length : Int) := by omega
      have hk0 : (0 : Int) ≤ (k : Int) := by omega
      obtain ⟨g, rfl, p0, p1⟩ := keys_at HX.out.2.2.2.1 HK.out.1 hlt
      have HW : Hid (wfN xs[k] ∧ Maps.has D (kLit xs[k]) = true) := (HX.out.1.all _).1 (List.getElem_mem hlt)
      generalize xs[k] = y at *
      obtain ⟨y1, y2⟩ := y
      simp only at p0 p1
      obtain ⟨U, hU⟩ : ∃ U, wr.alloc (.cells #[.int .i64 0, .int .i64 0] 49) = U := ⟨_, rfl⟩
      obtain ⟨vb, hvb⟩ : ∃ vb, wr.heap.size = vb := ⟨_, rfl⟩
      obtain ⟨⟨c0, c1, f0, f1⟩, hVV⟩ := stored23 (x := .int .i64 y1) (y := .int .i64 y2) hU hvb
      obtain ⟨V, hV⟩ : ∃ V, (U.setCell ⟨vb, 0, none⟩ (.int .i64 y1)).setCell ⟨vb, 1, none⟩ (.int .i64 y2) = V := ⟨_, rfl⟩
      obtain ⟨hb1, hb2⟩ := hVV V hV
      have hbd : Below V.heap.size V V.drew := (Below.refl _ V).drew
      have HB : Hid (Below w.heap.size w V.drew ∧ Below w1.heap.size w1 V.drew ∧ V.drew.heap[vb]? = some (.cells #[.int .i64 y1, .int .i64 y2] 49 (0, 0)) ∧ ∃ vs, V.drew.ownsRow w1.heap.size 66 3 (.slice va k vc) k vs) := by
        have h1 : Below w1.heap.size w1 V.drew := (HK.out.1.trans (hb1.mono HK.out.1.size)).drew
        obtain ⟨vs, hvs⟩ := HK.out.2
        refine ⟨HX.out.2.2.2.2.trans (h1.mono HX.out.2.2.2.2.size), h1, hb2, vs, hvs.1, ?_⟩
        rcases hvs.2 with e | ⟨g2, cap, cur, e, t1, t2, t3⟩
        · exact .inl e
        · exact .inr ⟨g2, cap, cur, e, t1, (hb1.block g2 (Array.getElem?_eq_some_iff.1 t2).1).trans t2, t3⟩
      obtain ⟨u, l, hlk, hml, HT⟩ : ∃ u l, (Instr.lookup 92 (.map (some M)) (.agg #[.int .i64 y1, .int .i64 y2]) false).run Tryz.prog V.drew = .ok u V.drew ∧ lookH m (y1, y2) = some l ∧ Hid (TermAt V.drew u l) := (HH.out.1.below HB.out.1).look1 (y1, y2) HW.out.1 HW.out.2
      have H22 : Calls Tryz.prog 55 #[u] V.drew fun e w' => ∃ ta tn tc, e = .returned (.slice ta tn tc) ∧ Hid (Below V.drew.heap.size V.drew w') := by
        refine (h22 l u V.drew HT.out (HH.out.2 _ _ hml)).mono ?_
        rintro e w' ⟨u', rfl, h1, _, h3⟩
        obtain ⟨ta, tc, e⟩ := h1.form
        exact ⟨ta, _, tc, by rw [e], h3⟩
      clear hml HT
      have hp := (HH.out.1.below HB.out.1).cell
      have q0 : V.drew.cell? ⟨vb, 0, none⟩ = some (.int .i64 y1) := by rw [cell_of_row _ vb 0 _ 49 (0, 0) HB.out.2.2.1]; rfl
      have q1 : V.drew.cell? ⟨vb, 1, none⟩ = some (.int .i64 y2) := by rw [cell_of_row _ vb 1 _ 49 (0, 0) HB.out.2.2.1]; rfl
      clear hVV hb1 hb2 hbd
      go_wp2_with fail
      go_region_law (first
        | (refine step_append_own rfl (.tmp 18) (.tmp 28) 22 rfl w1.heap.size 66 i0 _ 3 40 Tryz.underlying22 hi0 hz0 hsz0 hby0 rfl (by decide) _ _ _ (by simp [Act.eval]) HR.out ⟨w5.heap.size, 0, none⟩ 1 1 [.int .i64 y1, .int .i64 y2, .slice ta tn tc] (by simp [Act.eval]) rfl HN.out.1 HN.out.2.1 (by unfold maxLen; omega) (by omega) HN.out.2.2 ?_; intro v8 w8 ho8 hg8 _)
        | (go_simp; refine H22.mono ?_; rintro e w5 ⟨ta, tn, tc, rfl, H5⟩; obtain ⟨r0, r1⟩ := box_kept HB.out.2.2.1 H5.out; obtain ⟨vs, HR⟩ : ∃ vs, Hid ((w5.alloc (.cells #[.int .i64 y1, .int .i64 y2, .slice ta tn tc] 66)).ownsRow w1.heap.size 66 3 (.slice va k vc) k vs) := keep_row HB.out.2.2.2 H5.out; have HN : Hid ((∀ j u, ([.int .i64 y1, .int .i64 y2, .slice ta tn tc] : List Value)[j]? = some u → (w5.alloc (.cells #[.int .i64 y1, .int .i64 y2, .slice ta tn tc] 66)).cell? ((⟨w5.heap.size, 0, none⟩ : Addr).add j) = some u) ∧ (∀ u ∈ ([.int .i64 y1, .int .i64 y2, .slice ta tn tc] : List Value), u.oneCell' = true) ∧ w1.heap.size ≤ (w5.alloc (.cells #[.int .i64 y1, .int .i64 y2, .slice ta tn tc] 66)).heap.size) := new_row HB.out.2.1 H5.out))
      all_goals (
        have H9 : ∃ va' vc', v8 = .slice va' (k + 1) vc' ∧ Hid (BiI w1 w8 (.slice va' (k + 1) vc') (k + 1)) := next_row HB.out.2.1 H5.out HR.out ho8 hg8
        obtain ⟨va', vc', rfl, H9⟩ := H9
        clear hlk H22 hp q0 q1 r0 r1 hU hvb c0 c1 f0 f1 hV p0 p1 ho8 hg8 H5 HR HN HK HB
        go_wp2_with fail
        go_roundw
        case rel => exact ⟨k + 1, va', vc', by omega, by go_num, by go_num, H9⟩
        case measure => simp [intOf]; omega)
    · have hltI : ¬ (k : Int) < (xs.length : Int) := by omega
      obtain rfl : k = xs.length := by omega
      go_wp2_with fail
      go_ret
      have HE : Hid ((∃ ys, UpK D ys ∧ ys.length = xs.length) ∧ Below w.heap.size w wr) := ⟨⟨xs, HX.out.1, rfl⟩, HX.out.2.2.2.2.trans (HK.out.1.mono HX.out.2.2.2.2.size)⟩
      exact ⟨va, xs.length, ⟨vc, rfl⟩, HE⟩
end Go.Proofs.YtojobiefambkoaaGreatDoor
