/- Contract of maps.Clone, and of the program's Fork. -/
import Derived.Test.YtdonclnjgopmbaaPQ
import Derived.Test.YtdonclnjgopmbaaKY1
import Derived.Maps.Range
import Derived.Shelf.SlMaps.Clone
namespace Go.Proofs.Ytdonclnjgopmbaa
open Go.RowKit
attribute [local go_sem ↓] Go.wp_at_zero Go.wp_at_succ
set_option maxRecDepth 100000 in
set_option maxHeartbeats 2000000 in
theorem o25 (b : Nat) (es : Array MapEntry) (ck : Nat) (w : World) (hb : w.heap[b]? = some (.map es ck)) :
    Calls Try.prog 25 #[.map (some b)] w fun e w' => e = .returned (.map (some w.heap.size)) ∧ w' = w.alloc (.map es ck) := by
  have hq := fun w => run_eql_map_nil_sl (P := Try.prog) w 45 _ _ (some b) Try.underlying45
  go_enter Try.func25, Try.ntmps25
  go_wp2
  rw [run_callFunc_extern Try.func38 (by kernel_rfl) (by kernel_rfl) (by kernel_rfl) (e := Extern.MapsClone.clone) (by kernel_rfl), run_maps_clone_sl w 45 hb]
  simp only [Result.andThen]
  rw [Oper.upon_value]
  go_wp2
  rw [run_typeAssert_map_sl _ 45 20 _ _ _ Try.underlying45]
  simp only [Result.andThen]
  rw [Oper.upon_value]
  go_wp2
  go_ret
  exact ⟨rfl, rfl⟩
theorem tb_put {w w' : World} {B tb rb wb n : Nat} {s : Nm → Sl} {m : Nm → List Int} {q : Nm → Bool} {x : Nm} {t : Sl} {l : List Int} (h : TbAt w B tb rb wb n s m q) (hl : l ≠ []) (hr : Row w B 3 t.a t.n t.c (i64s l)) (hne : ∀ y g, wfN y → blk (s y).a = some g → blk t.a ≠ some g)
    (hm : MpAt nmK w' rb (n + 1) (updF (fun y => if m y = [] then none else some (s y).v) x (some t.v))) (hg : w.grownBy w' (some rb)) : TbAt w' B tb rb wb (n + 1) (setAt s x t) (setAt m x l) q := by
  rw [row_upd2 m s x l t hl] at hm
  have hk : ∀ k, k < w.heap.size → k ≠ rb → w'.heap[k]? = w.heap[k]? := fun k hk hne => hg.block k hk (by simpa using hne)
  refine ⟨(hk tb h.lt (h.rows.ne_cells h.blk)).trans h.blk, hm, mp_more (h.want.keeps (hk wb h.want.lt (Ne.symm h.rw))), fun y hy => ?_, fun y hy => ?_, fun y z g hy hz hyz e => ?_, h.rw, h.hb⟩
  · by_cases e : y = x
    · subst e
      rw [setAt_same, setAt_same]
      exact hr.keeps fun g hg' => hk g (hr.lt hg').2 (by
        obtain ⟨cu, h1⟩ := hr.type hg'
        exact h.rows.ne_cells h1)
    · rw [setAt_other _ _ e, setAt_other _ _ e]
      exact (h.row y hy).keeps fun g hg' => hk g ((h.row y hy).lt hg').2 (by
        obtain ⟨cu, h1⟩ := (h.row y hy).type hg'
        exact h.rows.ne_cells h1)
  · by_cases e : y = x
    · subst e
      rw [setAt_same] at hy
      exact absurd hy hl
    · rw [setAt_other _ _ e] at hy ⊢
      exact h.nil y hy
  · by_cases e1 : y = x
    · subst e1
      rw [setAt_same] at e
      rw [setAt_other _ _ (Ne.symm hyz)]
      exact fun e2 => hne z g hz e2 e
    · rw [setAt_other _ _ e1] at e
      by_cases e2 : z = x
      · subst e2
        rw [setAt_same]
        exact hne y g hy e
      · rw [setAt_other _ _ e2]
        exact h.apart y z g hy hz hyz e
theorem tb_like {w : World} {B tb rb wb n : Nat} {s : Nm → Sl} {m m' : Nm → List Int} {q : Nm → Bool} (h : TbAt w B tb rb wb n s m q) (hm : ∀ x, wfN x → m x = m' x) : ∃ s', TbAt w B tb rb wb n s' m' q := by
  classical
  refine ⟨fun x => if wfN x then s x else ⟨none, 0, 0⟩, h.blk, ?_, h.want, fun x hx => ?_, fun x hx => ?_, fun x y g hx hy hne e => ?_, h.rw, h.hb⟩
  · obtain ⟨D, h1, h2⟩ := h.rows
    refine ⟨D, h1, fun x hx => ?_⟩
    have := h2 x hx
    have hx' : wfN x := hx
    simp only [if_pos hx', ← hm x hx]
    exact this
  · rw [if_pos hx, ← hm x hx]; exact h.row x hx
  · by_cases hw : wfN x
    · rw [if_pos hw]; exact h.nil x (by rw [hm x hw]; exact hx)
    · rw [if_neg hw]
  · rw [if_pos hx] at e
    rw [if_pos hy]
    exact h.apart x y g hx hy hne e
/-- While the map is gone through. -/
structure FkG (w : World) (rb r n : Nat) (D : DataW Value) (m : Nm → List Int) (q : Nm → Bool) (tb2 rb2 wb2 : Nat) (left : Lit → Bool) (cnt : Nat) (wr : World) : Prop where
  rg : wr.ranges Try.prog 28 heldElem rb r n D left cnt
  bel : Below w.heap.size w wr
  low : w.heap.size ≤ r
  tab : ∃ s2 m2 j, TbAt wr w.heap.size tb2 rb2 wb2 j s2 m2 q ∧ (∀ x, wfN x → m2 x = if left (kLit x) = true then [] else m x) ∧ j + cnt ≤ n + n ∧ ∀ x, wfN x → blk (s2 x).a ≠ some r
  here : ∀ x, wfN x → left (kLit x) = true → m x ≠ []
  tr : w.heap.size ≤ tb2 ∧ tb2 < r ∧ rb2 < r ∧ wb2 < r
/-- Behind Fork. -/
def ForkP (w : World) (n : Nat) (m : Nm → List Int) (q : Nm → Bool) (z : Value) (w' : World) : Prop :=
  ∃ tb2 rb2 wb2 s2 j, z = .pointer (some ⟨tb2, 0, none⟩) ∧ w.heap.size ≤ tb2 ∧ TbAt w' w.heap.size tb2 rb2 wb2 j s2 m q ∧ j ≤ n + n ∧ Below w.heap.size w w'
set_option maxRecDepth 100000 in
set_option maxHeartbeats 4000000 in
theorem o9 (B tb rb wb n : Nat) (s : Nm → Sl) (m : Nm → List Int) (q : Nm → Bool) (w : World) (h : TbAt w B tb rb wb n s m q) (hn : n ≤ 1000000) (hl : ∀ x, (m x).length ≤ 1000000) :
    Calls Try.prog 9 #[.pointer (some ⟨tb, 0, none⟩)] w fun e w' => ∃ z, e = .returned z ∧ ForkP w n m q z w' := by
  obtain ⟨t0, t1⟩ := h.cells
  obtain ⟨D, hown, hD⟩ := h.rows
  obtain ⟨W, hW⟩ : ∃ W, w.alloc (.map #[] 0) = W := ⟨_, rfl⟩
  obtain ⟨rb2, hrb2⟩ : ∃ rb2, w.heap.size = rb2 := ⟨_, rfl⟩
  obtain ⟨wb2, hwb2⟩ : ∃ wb2, rb2 + 1 = wb2 := ⟨_, rfl⟩
  have hWs : W.heap.size = wb2 := by rw [← hW, ← hwb2, ← hrb2]; simp
  have hbW : Below w.heap.size w W := by rw [← hW]; exact (Below.refl _ w).alloc (Nat.le_refl _) _
  have T1 : W.cell? ⟨tb, 1, none⟩ = some (.map (some wb)) := (hbW.cell (p := ⟨tb, 1, none⟩) h.lt).trans t1
  have H25 : Calls Try.prog 25 #[.map (some wb)] W fun e w' => e = .returned (.map (some wb2)) ∧ Hid (Below w.heap.size w w' ∧ MpAt nmK w' rb2 0 (fun _ => none) ∧ MpAt nmK w' wb2 n (fun x => if q x = true then some (.agg #[]) else none) ∧ w'.heap.size = wb2 + 1) := by
    obtain ⟨D', ⟨es, ck, k1, k2⟩, k3⟩ := h.want
    have k1' : W.heap[wb]? = some (.map es ck) := (hbW.block wb h.want.lt).trans k1
    refine (o25 wb es ck W k1').mono ?_
    rintro e w' ⟨rfl, rfl⟩
    refine ⟨by rw [hWs], hbW.alloc hbW.size _, ?_, ⟨D', ⟨es, ck, ?_, k2⟩, k3⟩, by simp [hWs]⟩
    · have := mp_made nmK w
      rw [hW, hrb2] at this
      exact this.keeps (heap_alloc_old _ _ (by omega))
    · rw [← hWs]; exact heap_alloc_new W _
  have HH : Hid (TbAt w B tb rb wb n s m q ∧ (∀ x, wfN x → Maps.has D (kLit x) = (if m x = [] then none else some (s x).v : Option Value).isSome ∧ ∀ v, (if m x = [] then none else some (s x).v : Option Value) = some v → ∀ z, D.atKey (kLit x) z = .held v) ∧ w.ownsMap Try.prog 28 heldElem rb n D ∧ rb < w.heap.size ∧ n ≤ 1000000 ∧ (∀ x, (m x).length ≤ 1000000) ∧ tb < w.heap.size ∧ w.cell? ⟨tb, 0, none⟩ = some (.map (some rb)) ∧ w.heap.size = rb2 ∧ rb2 + 1 = wb2) := ⟨h, hD, hown, hown.lt, hn, hl, h.lt, t0, hrb2, hwb2⟩
  have hmm := @run_makeMap Try.prog
  clear h hD hown hn hl hbW
  go_enter Try.func9, Try.ntmps9
  go_wp2_with fail
  refine H25.mono ?_
  rintro e w1 ⟨rfl, H1⟩
  clear H25 T1 t0 t1
  obtain ⟨tb2, htb2⟩ : ∃ tb2, w1.heap.size = tb2 := ⟨_, rfl⟩
  obtain ⟨U, hU⟩ : ∃ U, w1.alloc (.cells #[.map (some rb2), .map (some wb2)] 47) = U := ⟨_, rfl⟩
  have HU : Hid (TbAt U w.heap.size tb2 rb2 wb2 n (fun _ => ⟨none, 0, 0⟩) (fun _ => []) q ∧ Below w.heap.size w U ∧ U.heap.size = tb2 + 1 ∧ tb2 = wb2 + 1) := by
    obtain ⟨b1, b2, b3, b4⟩ := H1.out
    obtain ⟨_, _, _, _, _, _, _, _, e1, e2⟩ := HH.out
    have hc : U.heap[tb2]? = some (.cells #[.map (some rb2), .map (some wb2)] 47 (0, 0)) := by rw [← hU, ← htb2]; exact heap_alloc_new w1 _
    have hk : ∀ g, g < tb2 → U.heap[g]? = w1.heap[g]? := fun g hg => by rw [← hU]; exact heap_alloc_old _ _ (by omega)
    have b2' := b2.keeps (hk rb2 (by omega))
    refine ⟨⟨hc, ?_, b3.keeps (hk wb2 (by omega)), fun x _ => row_nil _ _ _, fun x _ => rfl, fun x y g _ _ _ e => by (cases e), by omega, by omega⟩, by rw [← hU]; exact b1.alloc b1.size _, by rw [← hU]; simp [htb2], by omega⟩
    simp only [if_true]
    obtain ⟨D2, ⟨es, ck, k1, k2, k3, k4⟩, k5⟩ := b2'
    exact ⟨D2, ⟨es, ck, k1, k2, by omega, k4⟩, k5⟩
  have T0 : U.cell? ⟨tb, 0, none⟩ = some (.map (some rb)) := (HU.out.2.1.cell (p := ⟨tb, 0, none⟩) HH.out.2.2.2.2.2.2.1).trans HH.out.2.2.2.2.2.2.2.1
  have hownU : U.ownsMap Try.prog 28 heldElem rb n D := by
    obtain ⟨es, ck, k1, k2⟩ := HH.out.2.2.1
    exact ⟨es, ck, (HU.out.2.1.block rb HH.out.2.2.2.1).trans k1, k2⟩
  go_wp2_with (first | (at_range; refine wpList_range_own _ rfl _ 44 rfl 28 34 (Maps.Keyed.of_law law28) Try.underlying44 _ rb n D rfl hownU ?_; intro w0 hrg0 hg0 hs0) | fail)
  have HI0 : Hid (FkG w rb U.heap.size n D m q tb2 rb2 wb2 (Maps.has D) (Maps.size D) w0) := by
    obtain ⟨u1, u2, u3, u4⟩ := HU.out
    obtain ⟨hT, hD, _, hrb, hn, hl, _, _, e1, e2⟩ := HH.out
    have hb0 : Below U.heap.size U w0 := ⟨hg0.os, hg0.tape, hg0.output, hg0.size, fun j hj => hg0.block j hj (by simp)⟩
    have hhas : ∀ x, wfN x → (Maps.has D (kLit x) = true ↔ m x ≠ []) := fun x hx => by
      rw [(hD x hx).1]
      by_cases e : m x = [] <;> simp [e]
    refine ⟨hrg0, u2.trans (hb0.mono u2.size), u2.size, ⟨_, _, n, u1.below hb0, fun x hx => ?_, by have := ranges_le hrg0; omega, fun x _ e => by (cases e)⟩, fun x hx h1 => (hhas x hx).1 h1, by omega⟩
    by_cases e : m x = []
    · rw [e]; simp
    · rw [if_pos ((hhas x hx).2 e)]
  obtain ⟨r, hr⟩ : ∃ r, U.heap.size = r := ⟨_, rfl⟩
  have HR : Hid (U.heap.size = r) := hr
  rw [hr] at HI0
  clear hrg0 hg0 hs0 hownU T0
  go_frame
  go_loopw [4, 5] (fun _ _ wr => ∃ left cnt, Hid (FkG w rb r n D m q tb2 rb2 wb2 left cnt wr)) (fun _ _ wr => wr.rangeLeft rb r)
  case atStart => exact ⟨_, _, HI0⟩
  case round =>
    clear HI0
    obtain ⟨left, cnt, HK⟩ := hrel
    have hrg := HK.out.rg
    have HLE : Hid (wr.rangeLeft rb r = cnt) := hrg.left_eq
    go_wp2_with (first | (at_next; refine wpList_next_ranges (α := Value) (β := Value) _ rfl _ rfl 28 (Maps.Keyed.of_law law28) heldElem (fun x => x) (fun x => x) (fun key _ _ => ⟨key, rfl⟩) (fun v _ _ => ⟨v, rfl⟩) rb r n D left cnt (by rw [← HR.out]; rfl) hrg ?_ ?_) | fail)
    · intro hc0 hl0
      have HF : Hid (ForkP w n m q (.pointer (some ⟨tb2, 0, none⟩)) wr) := by
        obtain ⟨_, k2, _, ⟨s2, m2, j, k4, k5, k6, _⟩, _, k8⟩ := HK.out
        obtain ⟨s3, k9⟩ := tb_like (m' := m) k4 fun x hx => by rw [k5 x hx, hl0]; simp
        exact ⟨tb2, rb2, wb2, s3, j, rfl, k8.1, k9, by omega, k2⟩
      clear hrg HK HLE hc0 hl0
      go_wp2_with fail
      go_ret
      exact ⟨_, rfl, HF.out⟩
    · intro x c kl y1 y2 w2 cnt1 hkey hlk hv hat hrg1 hlt hg1 hs1 hen
      obtain ⟨k', hwk, hxk, hkl⟩ := key_inv hkey
      subst hxk hkl
      have hmk : m k' ≠ [] := HK.out.here k' hwk hlk
      have hcv : c = (s k').v := by
        have h5 := (HH.out.2.1 k' hwk).2 (s k').v (by simp [hmk]) (.held (.bool true))
        rw [hat] at h5
        have h6 : heldElem c = some (.held c, []) := rfl
        rw [h6] at hv
        simp only [Option.some.injEq, Prod.mk.injEq] at hv
        rw [← hv.1] at h5
        simp only [DataW.held.injEq] at h5
        exact h5
      subst hcv
      have hg1b : Below w.heap.size w w2 := by
        have hbel := HK.out.bel
        exact ⟨hg1.os.trans hbel.os, hg1.tape.trans hbel.tape, hg1.output.trans hbel.output, Nat.le_trans hbel.size hg1.size, fun j hj => (hg1.block j (Nat.lt_of_lt_of_le hj hbel.size) (by have := HK.out.low; simp; omega)).trans (hbel.block j hj)⟩
      have HG : Hid (w2.ranges Try.prog 28 heldElem rb r n D (fun z => left z && !z.sameKey (kLit k')) cnt1 ∧ Below w.heap.size w w2 ∧ m k' ≠ [] ∧ wfN k' ∧ left (kLit k') = true ∧ cnt1 < cnt ∧ ∃ s2 m2 j, TbAt w2 w.heap.size tb2 rb2 wb2 j s2 m2 q ∧ (∀ x, wfN x → m2 x = if left (kLit x) = true then [] else m x) ∧ j + cnt ≤ n + n ∧ ∀ x, wfN x → blk (s2 x).a ≠ some r) := by
        obtain ⟨s2, m2, j, k4, k5, k6, k7⟩ := HK.out.tab
        have hk8 := HK.out.tr
        have hk : ∀ g, g < wr.heap.size → g ≠ r → w2.heap[g]? = wr.heap[g]? := fun g h1 h2 => hg1.block g h1 (by simpa using h2)
        exact ⟨hrg1, hg1b, hmk, hwk, hlk, hlt, s2, m2, j, k4.keeps (hk _ k4.lt (by omega)) (hk _ k4.rows.lt (by omega)) (hk _ k4.want.lt (by omega)) (fun x g hx e => hk g ((k4.row x hx).lt e).2 fun e' => k7 x hx (e' ▸ e)), k5, k6, k7⟩
      obtain ⟨x1, x2⟩ := k'
      have HX : Hid ((m (x1, x2)).length ≤ 1000000 ∧ Row w B 3 (s (x1, x2)).a (s (x1, x2)).n (s (x1, x2)).c (i64s (m (x1, x2)))) := ⟨HH.out.2.2.2.2.2.1 _, HH.out.1.row _ hwk⟩
      obtain ⟨sx, hsx⟩ : ∃ sx, s (x1, x2) = sx := ⟨_, rfl⟩
      have HSX : Hid (s (x1, x2) = sx) := hsx
      have hen' : (Instr.entry (.pointer (some ⟨r, 0, none⟩))).run Try.prog w2 = .ok (.tuple #[.agg #[.int .i64 x1, .int .i64 x2], .slice sx.a sx.n sx.c]) w2 := by rw [← hsx]; exact hen
      rw [hsx] at HX
      clear hen
      obtain ⟨W2, hW2⟩ : ∃ W2, w2.alloc (.cells #[.int .i64 0, .int .i64 0] 28) = W2 := ⟨_, rfl⟩
      obtain ⟨vb, hvb⟩ : ∃ vb, w2.heap.size = vb := ⟨_, rfl⟩
      have hc : W2.heap[vb]? = some (.cells #[.int .i64 0, .int .i64 0] 28 (0, 0)) := by rw [← hW2, ← hvb]; exact heap_alloc_new w2 _
      obtain ⟨c0, c1⟩ := box_cells hc
      have g0 := frozen_of_row W2 vb 0 _ 28 hc
      have g1 := frozen_of_row W2 vb 1 _ 28 hc
      obtain ⟨V, hV⟩ : ∃ V, (W2.setCell ⟨vb, 0, none⟩ (.int .i64 x1)).setCell ⟨vb, 1, none⟩ (.int .i64 x2) = V := ⟨_, rfl⟩
      have HV : Hid (Below w2.heap.size w2 V ∧ V.heap[vb]? = some (.cells #[.int .i64 x1, .int .i64 x2] 28 (0, 0)) ∧ w2.heap.size ≤ V.heap.size ∧ w2.heap.size = vb) := by
        have h1 : Below w2.heap.size w2 W2 := by rw [← hW2]; exact (Below.refl _ _).alloc (Nat.le_refl _) _
        have h0 : w2.heap.size ≤ vb := by omega
        have e1 := heap_setCell_same W2 vb 0 _ 28 (.int .i64 x1) hc
        have e2 := heap_setCell_same _ vb 1 _ 28 (.int .i64 x2) e1
        have hb : Below w2.heap.size w2 V := by
          rw [← hV]
          exact (h1.setCell (p := ⟨vb, 0, none⟩) h0 _).setCell (p := ⟨vb, 1, none⟩) h0 _
        exact ⟨hb, by rw [← hV]; exact e2, hb.size, hvb⟩
      obtain ⟨q0, q1⟩ := box_cells HV.out.2.1
      have u0 : V.cell? ⟨tb2, 0, none⟩ = some (.map (some rb2)) := by
        obtain ⟨_, _, _, _, _, _, s2, m2, j, k4, _⟩ := HG.out
        exact (k4.below HV.out.1).cells.1
      have K26 : Hid (∀ u, Below V.heap.size V u → Calls Try.prog 26 #[.slice sx.a sx.n sx.c] u fun e w' => ∃ g, e = .returned (.slice (some ⟨g, 0, none⟩) sx.n sx.n) ∧ Hid (True ∧ w'.cell? ⟨tb2, 0, none⟩ = some (.map (some rb2)) ∧ w'.cell? ⟨vb, 0, none⟩ = some (.int .i64 x1) ∧ w'.cell? ⟨vb, 1, none⟩ = some (.int .i64 x2) ∧
          ∃ w4, (Instr.mapUpdate 44 (.map (some rb2)) (.agg #[.int .i64 x1, .int .i64 x2]) (.slice (some ⟨g, 0, none⟩) sx.n sx.n)).run Try.prog w' = .ok () w4 ∧ Hid (FkG w rb r n D m q tb2 rb2 wb2 (fun z => left z && !z.sameKey (kLit (x1, x2))) cnt1 w4 ∧ w4.cell? ⟨tb2, 0, none⟩ = some (.map (some rb2)) ∧ w4.cell? ⟨vb, 0, none⟩ = some (.int .i64 x1) ∧ w4.cell? ⟨vb, 1, none⟩ = some (.int .i64 x2)))) := fun u hu => by
        obtain ⟨p1, p2, p3, p4, p5, p6, s2, m2, j, k4, k5, k6, k7⟩ := HG.out
        obtain ⟨v1, v2, v3, v4⟩ := HV.out
        obtain ⟨hlen, hrow⟩ := HX.out
        have b1 : Below w2.heap.size w2 u := v1.trans (hu.mono v1.size)
        have bw : Below w.heap.size w u := p2.trans (b1.mono p2.size)
        have hsn : sx.n = (m (x1, x2)).length := by simpa using hrow.len.symm
        refine (o26 sx.a sx.n sx.c (m (x1, x2)) u (hrow.below bw).in (by omega)).mono ?_
        rintro e w' ⟨g, rfl, h1, h2⟩
        have b2 : Below w2.heap.size w2 w' := b1.trans (h2.mono b1.size)
        have bw' : Below w.heap.size w w' := p2.trans (b2.mono p2.size)
        have hg := h1.lt (g := g) rfl
        have hug : w2.heap.size ≤ u.heap.size := b1.size
        have kT := k4.below b2
        have hbx : w'.heap[vb]? = some (.cells #[.int .i64 x1, .int .i64 x2] 28 (0, 0)) := (h2.block vb (Nat.lt_of_lt_of_le (Array.getElem?_eq_some_iff.1 v2).1 hu.size)).trans ((hu.block vb (Array.getElem?_eq_some_iff.1 v2).1).trans v2)
        obtain ⟨w4, r1, r2, r3⟩ := kT.rows.put Try.underlying44 (by unfold maxLen; have := HH.out.2.2.2.2.1; omega) (x := (x1, x2)) p4 (.slice (some ⟨g, 0, none⟩) sx.n sx.n)
        have hm2 : m2 (x1, x2) = [] := by rw [k5 _ p4, if_pos p5]
        have hrow' : Row w' w.heap.size 3 (some ⟨g, 0, none⟩) sx.n sx.n (i64s (m (x1, x2))) := by
          obtain ⟨z1, z2, z3, z4⟩ := h1
          refine ⟨z1, z2, z3, ?_⟩
          rcases z4 with e | ⟨g', cur, e, z5, z6⟩
          · exact .inl e
          · exact .inr ⟨g', cur, e, by have := p2.size; omega, z6⟩
        have kP := tb_put (x := (x1, x2)) (t := ⟨some ⟨g, 0, none⟩, sx.n, sx.n⟩) (l := m (x1, x2)) kT p3 hrow' (fun y g' hy e e' => by
          have a1 := ((k4.row y hy).lt e).2
          simp only [blk_some, Option.some.injEq] at e'
          omega) r2 r3
        have key : ∀ x, wfN x → ((left (kLit x) && !(kLit x).sameKey (kLit (x1, x2))) = true ↔ left (kLit x) = true ∧ x ≠ (x1, x2)) := fun x hx => by
          by_cases e : x = (x1, x2)
          · subst e
            simp [WideAt.sameKey_self ((Maps.Keyed.of_law law28).key (key28 _ hx))]
          · have hne : (kLit x).sameKey (kLit (x1, x2)) = false := Maps.sameKey_ne fun e2 => e (kLit_inj hx p4 e2)
            simp [hne, e]
        have htr := HK.out.tr
        have hrl : r < w2.heap.size := p1.lt
        have b1g : w2.grownBy w' none := ⟨b2.os, b2.tape, b2.output, b2.size, fun j hj _ => b2.block j hj⟩
        have b4 : Below w.heap.size w w4 := ⟨r3.os.trans bw'.os, r3.tape.trans bw'.tape, r3.output.trans bw'.output, Nat.le_trans bw'.size r3.size, fun j hj => (r3.block j (Nat.lt_of_lt_of_le hj bw'.size) (by have := k4.hb.1; simp; omega)).trans (bw'.block j hj)⟩
        have hbx4 : w4.heap[vb]? = some (.cells #[.int .i64 x1, .int .i64 x2] 28 (0, 0)) := (r3.block vb (Array.getElem?_eq_some_iff.1 hbx).1 (by have := kT.rows.ne_cells hbx; simpa using this)).trans hbx
        refine ⟨g, rfl, trivial, kT.cells.1, (box_cells hbx).1, (box_cells hbx).2, w4, r1, ⟨(p1.kept b1g (by simp) (by simp)).kept r3 (by have := HH.out.2.2.2.1; have := k4.hb.1; simp; omega) (by simp; omega), b4, HK.out.low, ⟨_, _, j + 1, kP, fun x hx => ?_, by omega, fun x hx e => ?_⟩, fun x hx h0 => HK.out.here x hx ((key x hx).1 h0).1, htr⟩, kP.cells.1, (box_cells hbx4).1, (box_cells hbx4).2⟩
        · by_cases e : x = (x1, x2)
          · subst e
            rw [setAt_same, if_neg (fun h0 => ((key _ hx).1 h0).2 rfl)]
          · rw [setAt_other _ _ e, k5 x hx]
            by_cases h0 : left (kLit x) = true
            · rw [if_pos h0, if_pos ((key x hx).2 ⟨h0, e⟩)]
            · rw [if_neg h0, if_neg (fun h1 => h0 ((key x hx).1 h1).1)]
        · by_cases e1 : x = (x1, x2)
          · subst e1
            rw [setAt_same] at e
            simp only [blk_some, Option.some.injEq] at e
            omega
          · rw [setAt_other _ _ e1] at e
            exact k7 x hx e
      have HLT : Hid (cnt1 < cnt) := hlt
      clear hc hkey hlk hv hat hrg1 hlt hg1 hs1 hrg hwk hmk hg1b hsx
      go_wp2_with fail
      refine wp_region_noPanic ?_
      refine wp_region_held_drew (S := fun u => u.cell? ⟨tb2, 0, none⟩ = some (.map (some rb2)) ∧ u.cell? ⟨vb, 0, none⟩ = some (.int .i64 x1) ∧ u.cell? ⟨vb, 1, none⟩ = some (.int .i64 x2)) (by kernel_rfl) (⟨u0, q0, q1⟩) (fun hHeld => ?_)
      (refine wpAnyH_take (i := 0) (v := ?_) (by simp only [List.getElem?_toArray, List.getElem?_cons_zero]; rfl) (by kernel_rfl) (by kernel_rfl) (by kernel_rfl) (fun _ _ _ h => h) (Or.inl ⟨by rfl, ?_⟩) (by assumption) ?_; rotate_left; (· (intro w hSw; (try dsimp only at hSw); go_simp <;> with_reducible rfl)); try simp only [Act.put, List.setIfInBounds_toArray, List.set_cons_zero, List.set_cons_succ])
      (refine wpAnyH_take (i := 1) (v := ?_) (by simp only [List.getElem?_toArray, List.getElem?_cons_zero, List.getElem?_cons_succ]; rfl) (by kernel_rfl) (by kernel_rfl) (by kernel_rfl) (fun _ _ _ h => h) (Or.inl ⟨by rfl, ?_⟩) (by assumption) ?_; rotate_left; (· (intro w hSw; (try dsimp only at hSw); go_simp <;> with_reducible rfl)); try simp only [Act.put, List.setIfInBounds_toArray, List.set_cons_zero, List.set_cons_succ])
      (refine wpAnyH_take (i := 2) (v := ?_) (by simp only [List.getElem?_toArray, List.getElem?_cons_zero, List.getElem?_cons_succ]; rfl) (by kernel_rfl) (by kernel_rfl) (by kernel_rfl) (fun _ _ _ h => h) (Or.inl ⟨by rfl, ?_⟩) (by assumption) ?_; rotate_left; (· (intro w hSw; (try dsimp only at hSw); go_simp <;> with_reducible rfl)); try simp only [Act.put, List.setIfInBounds_toArray, List.set_cons_zero, List.set_cons_succ])
      (refine wpAnyH_take (i := 3) (v := ?_) (by simp only [List.getElem?_toArray, List.getElem?_cons_zero, List.getElem?_cons_succ]; rfl) (by kernel_rfl) (by kernel_rfl) (by kernel_rfl) (fun _ _ _ h => h) (Or.inl ⟨by rfl, ?_⟩) (by assumption) ?_; rotate_left; (· (intro w hSw; (try dsimp only at hSw); go_simp <;> with_reducible rfl)); try simp only [Act.put, List.setIfInBounds_toArray, List.set_cons_zero, List.set_cons_succ])
      (refine wpAnyH_take (i := 4) (v := ?_) (by simp only [List.getElem?_toArray, List.getElem?_cons_zero, List.getElem?_cons_succ]; rfl) (by kernel_rfl) (by kernel_rfl) (by kernel_rfl) (fun _ _ _ h => h) (Or.inl ⟨by rfl, ?_⟩) (by assumption) ?_; rotate_left; (· (intro w hSw; (try dsimp only at hSw); go_simp <;> with_reducible rfl)); try simp only [Act.put, List.setIfInBounds_toArray, List.set_cons_zero, List.set_cons_succ])
      (refine wpAnyH_take (i := 5) (v := ?_) (by simp only [List.getElem?_toArray, List.getElem?_cons_zero, List.getElem?_cons_succ]; rfl) (by kernel_rfl) (by kernel_rfl) (by kernel_rfl) (fun _ _ _ h => h) (Or.inl ⟨by rfl, ?_⟩) (by assumption) ?_; rotate_left; (· (intro w hSw; (try dsimp only at hSw); go_simp <;> with_reducible rfl)); try simp only [Act.put, List.setIfInBounds_toArray, List.set_cons_zero, List.set_cons_succ])
      refine wpAnyH_ready (rs := [6]) (by kernel_rfl) (by simp) ?_
      refine AllReadyH.cons (by simp only [List.getElem?_toArray, List.getElem?_cons_zero, List.getElem?_cons_succ]; rfl) (fun K hK => ?_) AllReadyH.nil
      go_simp
      go_at_call 26
      refine (K26.out _ (by first | exact Below.refl _ _ | exact (Below.refl _ _).drew | exact below_dN (Below.refl _ _) _)).mono ?_
      rintro e w3 ⟨g3, rfl, H3⟩
      refine hK.out _ _ ?_ (fun hHeld => ?_)
      · exact ⟨H3.out.2.1, H3.out.2.2.1, H3.out.2.2.2.1⟩
      clear hK K
      try simp only [Act.put, List.setIfInBounds_toArray, List.set_cons_zero, List.set_cons_succ]
      obtain ⟨w4, hput, HF⟩ := H3.out.2.2.2.2
      refine wpAnyH_ready (rs := [7]) (by kernel_rfl) (by simp) ?_
      refine AllReadyH.cons (by simp only [List.getElem?_toArray, List.getElem?_cons_zero, List.getElem?_cons_succ]; rfl) (fun K hK => ?_) AllReadyH.nil
      go_simp
      refine hK.out _ _ ?_ (fun hHeld => ?_)
      · exact ⟨HF.out.2.1, HF.out.2.2.1, HF.out.2.2.2⟩
      clear hK K
      try simp only [Act.put, List.setIfInBounds_toArray, List.set_cons_zero, List.set_cons_succ]
      refine wpAnyH_done (by kernel_rfl) ?_ _
      refine NoPanic.normal ?_
      clear hHeld
      have HF2 := HF.out.1
      go_wp2_with fail
      go_roundw
      case rel =>
        rw [HR.out]
        repeat apply Exists.intro
        refine ⟨⟨_, _, HF2⟩, ?_⟩
        rfl
      case measure =>
        have h1 := HF2.rg.left_eq
        have h2 := HLE.out
        have h3 := HLT.out
        omega
end Go.Proofs.Ytdonclnjgopmbaa
