/- The program's Drop and Fork. -/
import Derived.Test.YtojobiefambkoaaDoorIH
import Derived.Maps.Views
import Derived.Shelf.SlMaps.Clone
namespace Go.Proofs.YtojobiefambkoaaDoor
open Go.RowKit
attribute [local go_sem ↓] Go.wp_at_zero Go.wp_at_succ
def delH (m : Hp) (x : Nm) : Hp := m.filter fun p => !(p.1 == x)
def dropH (m : Hp) (xs : List Nm) : Hp := xs.foldl delH m
theorem look_filter {m : Hp} {q : Nm → Bool} {y : Nm} (hq : q y = true) : lookH (m.filter fun p => q p.1) y = lookH m y := by
  induction m with
  | nil => rfl
  | cons p r ih =>
    unfold lookH at ih ⊢
    by_cases h : p.1 = y
    · have h1 : (p.1 == y) = true := by simpa using h
      rw [List.filter_cons, if_pos (by rw [h]; exact hq)]
      simp [h1]
    · have h1 : (p.1 == y) = false := by simpa using h
      rw [List.filter_cons]
      split
      · simp only [List.find?_cons, h1]
        exact ih
      · simp only [List.find?_cons, h1]
        exact ih
theorem look_filter_no {m : Hp} {q : Nm → Bool} {y : Nm} (hq : q y = false) : lookH (m.filter fun p => q p.1) y = none := by
  induction m with
  | nil => rfl
  | cons p r ih =>
    rw [List.filter_cons]
    split
    · next h =>
      have h1 : (p.1 == y) = false := by
        simp only [beq_eq_false_iff_ne]
        intro e
        rw [e, hq] at h
        cases h
      unfold lookH at ih ⊢
      simp only [List.find?_cons, h1]
      exact ih
    · exact ih
theorem look_del (m : Hp) (x y : Nm) : lookH (delH m x) y = if y = x then none else lookH m y := by
  unfold delH
  split
  · next e =>
    subst e
    exact look_filter_no (q := fun z => !(z == y)) (by simp)
  · next e => exact look_filter (q := fun z => !(z == x)) (by simpa using e)
theorem dropH_eq (m : Hp) : ∀ xs : List Nm, dropH m xs = m.filter fun p => !hasN xs p.1 := fun xs => by
  unfold dropH
  induction xs generalizing m with
  | nil => exact (List.filter_eq_self.2 (by simp [hasN])).symm
  | cons x r ih =>
    rw [List.foldl_cons, ih]
    unfold delH
    rw [List.filter_filter]
    congr 1
    funext p
    have e : hasN (x :: r) p.1 = (p.1 == x || hasN r p.1) := by
      rw [Bool.eq_iff_iff, hasN_iff, Bool.or_eq_true, hasN_iff, beq_iff_eq, List.mem_cons]
    rw [e]
    cases (p.1 == x) <;> cases hasN r p.1 <;> rfl
theorem drop_snoc (m : Hp) (xs : List Nm) (x : Nm) : dropH m (xs ++ [x]) = delH (dropH m xs) x := by simp [dropH]
/-- Behind Drop. -/
def DrP (w : World) (hb M n : Nat) (D : DataW Value) (m : Hp) (xs : List Nm) (w' : World) : Prop := ∃ D', HpAt w' hb M n D' (dropH m xs) ∧ KeepsBut M w w' ∧ ∀ V, VB D V → VB D' V
theorem vb_del {D : DataW Value} {V : Nat → Prop} {x : Nm} (hx : wfN x) (hV : VB D V) : VB (D.del (kLit x)) V := by
  intro y v hy h g hg
  by_cases e : y = x
  · subst e
    have h1 := h (.held (.bool true))
    have h2 := h (.held (.bool false))
    rw [Maps.atKey_del_same] at h1 h2
    cases h1
    cases h2
  · exact hV y v hy (fun z => by have := h z; rw [Maps.atKey_del_other fun e' => e (kLit_inj hy hx e')] at this; exact this) g hg
/-- Behind a delete. -/
theorem HpAt.del {w : World} {hb M n : Nat} {D : DataW Value} {m : Hp} {x : Nm} (h : HpAt w hb M n D m) (hx : wfN x) : ∃ w', (Builtin.delete_ #[70, 34] 0 #[.map (some M), .agg #[.int .i64 x.1, .int .i64 x.2]]).run Tryd.prog w = .ok (.tuple #[]) w' ∧ HpAt w' hb M n (D.del (kLit x)) (delH m x) ∧ w.mapTurned w' M := by
  obtain ⟨w', r1, r2, r3⟩ := h.map.drop keyed23 Tryd.underlying70 (key23 x hx) 0
  have hg := r3.grown
  have hne : hb ≠ M := fun e => by
    obtain ⟨es, ck, h2, _⟩ := h.map
    have h1 := h.blk
    rw [e, h2] at h1
    cases h1
  refine ⟨w', r1, ⟨(hg.block hb (Array.getElem?_eq_some_iff.1 h.blk).1 (by simpa using hne)).trans h.blk, r2, fun y hy hl => ?_, fun y l hy hl => ?_, fun y l hl hv => ?_, fun y l hl => ?_⟩, r3⟩
  · rw [look_del] at hl
    split at hl
    · next e => subst e; exact Maps.has_del_same
    · next e =>
      rw [Maps.has_del_other fun e' => e (kLit_inj hy hx e')]
      exact h.no y hy hl
  · rw [look_del] at hl
    split at hl
    · cases hl
    · next e =>
      obtain ⟨v, k1, k2⟩ := h.yes y l hy hl
      exact ⟨v, fun z => by rw [Maps.atKey_del_other fun e' => e (kLit_inj hy hx e')]; exact k1 z, k2.turned r3⟩
  · rw [look_del] at hl
    split at hl
    · cases hl
    · exact h.desc y l hl hv
  · rw [look_del] at hl
    split at hl
    · cases hl
    · exact h.wf y l hl
set_option maxRecDepth 100000 in
set_option maxHeartbeats 4000000 in
theorem z20 (m : Hp) (hb M n : Nat) (D : DataW Value) (xs : List Nm) (v : Value) (w : World) (hH : HpAt w hb M n D m) (hN : NamesAt w v xs) (hW : ∀ x ∈ xs, wfN x) (hM : xs ≠ [] → ∀ g, v.ownBlock = some g → g ≠ M) :
    Calls Tryd.prog 17 #[.pointer (some ⟨hb, 0, none⟩), v] w fun e w' => e = .returned (.tuple #[]) ∧ Hid (DrP w hb M n D m xs w') := by
  obtain ⟨va, vc, hvf⟩ := hN.form
  subst hvf
  have hxl : xs.length ≤ 9223372036854775807 := hN.1
  have HX : Hid (NamesAt w (.slice va xs.length vc) xs ∧ (∀ x ∈ xs, wfN x) ∧ (xs ≠ [] → ∀ g, (Value.slice va xs.length vc).ownBlock = some g → g ≠ M)) := ⟨hN, hW, hM⟩
  have HI0 : Hid (DrP w hb M n D m (xs.take 0) w) := ⟨D, hH, KeepsBut.of_below (Below.refl _ _), fun V h => h⟩
  clear hH hN hW hM
  go_enter Tryd.func17, Tryd.ntmps17
  go_wp2_with fail
  go_loopw [10] (fun i wr => ∃ k : Nat, k ≤ xs.length ∧ i = .int .i64 k ∧ Hid (DrP w hb M n D m (xs.take k) wr)) (fun i _ => xs.length - (intOf i).toNat)
  case atStart => exact ⟨0, Nat.zero_le _, rfl, HI0⟩
  case round =>
    clear HI0
    obtain ⟨k, hk, rfl, HK'⟩ := hrel
    obtain ⟨D', HK⟩ : ∃ D', Hid (HpAt wr hb M n D' (dropH m (xs.take k)) ∧ KeepsBut M w wr ∧ ∀ V, VB D V → VB D' V) := HK'.out
    clear HK'
    by_cases hlt : k < xs.length
    · have hltI : (k : Int) < (xs.length : Int) := by omega
      have hk0 : (0 : Int) ≤ (k : Int) := by omega
      obtain ⟨b, o, y1, y2, rfl, c0, c1, HD⟩ : ∃ b o y1 y2, va = some ⟨b, o, none⟩ ∧ wr.cell? ⟨b, o + k * 2, none⟩ = some (.int .i64 y1) ∧ wr.cell? ⟨b, o + k * 2 + 1, none⟩ = some (.int .i64 y2) ∧ Hid (xs.take (k + 1) = xs.take k ++ [(y1, y2)] ∧ wfN (y1, y2)) := by
        obtain ⟨_, ⟨e, _⟩ | ⟨b, o, cap, e, hr, hb4⟩⟩ := HX.out.1
        · rw [e] at hlt
          simp at hlt
        · simp only [Value.slice.injEq] at e
          obtain ⟨rfl, _, _⟩ := e
          obtain ⟨p0, p1⟩ := name_cells hr k hlt
          have hne := HX.out.2.2 (fun e => by rw [e] at hlt; simp at hlt) b rfl
          have kp : ∀ (j : Nat) (z : Value), w.cell? ⟨b, j, none⟩ = some z → wr.cell? ⟨b, j, none⟩ = some z := fun j z hz => by
            rw [← hz]
            unfold World.cell?
            simp only [HK.out.2.1.2.2.2.2 b hb4 hne]
          exact ⟨b, o, xs[k].1, xs[k].2, rfl, kp _ _ p0, kp _ _ p1, List.take_succ_eq_append_getElem hlt, HX.out.2.1 _ (List.getElem_mem hlt)⟩
      obtain ⟨U, hU⟩ : ∃ U, wr.alloc (.cells #[.int .i64 0, .int .i64 0] 34) = U := ⟨_, rfl⟩
      obtain ⟨vb, hvb⟩ : ∃ vb, wr.heap.size = vb := ⟨_, rfl⟩
      obtain ⟨⟨d0, d1, f0, f1⟩, hVV⟩ := stored23 (x := .int .i64 y1) (y := .int .i64 y2) hU hvb
      obtain ⟨V, hV⟩ : ∃ V, (U.setCell ⟨vb, 0, none⟩ (.int .i64 y1)).setCell ⟨vb, 1, none⟩ (.int .i64 y2) = V := ⟨_, rfl⟩
      obtain ⟨hb1, hb2⟩ := hVV V hV
      have h2 := (HK.out.1.below hb1).below ((Below.refl V.heap.size V).drew)
      obtain ⟨w2, hrun, hm2, ht2⟩ := h2.del HD.out.2
      have HF : Hid (DrP w hb M n D m (xs.take (k + 1)) w2) := by
        refine ⟨_, by rw [HD.out.1, drop_snoc]; exact hm2, ?_, fun V h => vb_del HD.out.2 (HK.out.2.2 V h)⟩
        have k1 := HK.out.2.1
        have k2 : KeepsBut M wr w2 := keeps_put (hb1.drew) ht2
        exact ⟨k2.1.trans k1.1, k2.2.1.trans k1.2.1, k2.2.2.1.trans k1.2.2.1, Nat.le_trans k1.2.2.2.1 k2.2.2.2.1, fun j hj hne => (k2.2.2.2.2 j (Nat.lt_of_lt_of_le hj k1.2.2.2.1) hne).trans (k1.2.2.2.2 j hj hne)⟩
      have hp := (HK.out.1.below hb1).cell
      obtain ⟨u0, u1⟩ := box_cells hb2
      clear hVV hb1 hb2 h2 hm2 ht2 HK HD
      go_wp2_with fail
      go_region
      go_wp2_with fail
      go_roundw
      case rel => exact ⟨k + 1, by omega, by go_num, HF⟩
      case measure => simp [intOf]; omega
    · have hltI : ¬ (k : Int) < (xs.length : Int) := by omega
      have HF : Hid (DrP w hb M n D m xs wr) := by
        have := HK.out
        rw [List.take_of_length_le (by omega)] at this
        exact ⟨D', this⟩
      go_wp2_with fail
      exact bodyPost_end (v := .tuple #[]) (by simp [results, Tryd.results17, go_sem]) rfl ⟨rfl, HF⟩
set_option maxRecDepth 100000 in
set_option maxHeartbeats 2000000 in
theorem z36 (b : Nat) (es : Array MapEntry) (ck : Nat) (w : World) (hb : w.heap[b]? = some (.map es ck)) :
    Calls Tryd.prog 39 #[.map (some b)] w fun e w' => e = .returned (.map (some w.heap.size)) ∧ w' = w.alloc (.map es ck) := by
  have hq := fun w => run_eql_map_nil_sl (P := Tryd.prog) w 70 _ _ (some b) Tryd.underlying70
  go_enter Tryd.func39, Tryd.ntmps39
  go_wp2
  rw [run_callFunc_extern Tryd.func60 (by kernel_rfl) (by kernel_rfl) (by kernel_rfl) (e := Extern.MapsClone.clone) (by kernel_rfl), run_maps_clone_sl w 70 hb]
  simp only [Result.andThen]
  rw [Oper.upon_value]
  go_wp2
  rw [run_typeAssert_map_sl _ 70 20 _ _ _ Tryd.underlying70]
  simp only [Result.andThen]
  rw [Oper.upon_value]
  go_wp2
  go_ret
  exact ⟨rfl, rfl⟩
set_option maxRecDepth 100000 in
set_option maxHeartbeats 2000000 in
theorem z18 (m : Hp) (hb M n : Nat) (D : DataW Value) (w : World) (hH : HpAt w hb M n D m) :
    Calls Tryd.prog 21 #[.pointer (some ⟨hb, 0, none⟩)] w fun e w' => ∃ hb2 M2, e = .returned (.pointer (some ⟨hb2, 0, none⟩)) ∧ Hid (HpAt w' hb2 M2 n D m ∧ Below w.heap.size w w' ∧ w.heap.size ≤ hb2 ∧ w.heap.size ≤ M2) := by
  obtain ⟨es, ck, k1, k2⟩ := hH.map
  obtain ⟨W, hW⟩ : ∃ W, w.alloc (.map es ck) = W := ⟨_, rfl⟩
  have hbW : Below w.heap.size w W := by rw [← hW]; exact (Below.refl _ _).alloc (Nat.le_refl _) _
  have hMW : W.heap[w.heap.size]? = some (.map es ck) := by rw [← hW]; exact heap_alloc_new w _
  have hsz : W.heap.size = w.heap.size + 1 := by rw [← hW]; simp
  have H36 : Calls Tryd.prog 39 #[.map (some M)] w fun e w' => e = .returned (.map (some w.heap.size)) ∧ w' = W := by
    rw [← hW]
    exact z36 M es ck w k1
  have c0 := hH.cell
  have HF : Hid (HpAt (W.alloc (.cells #[.map (some w.heap.size)] 72)) W.heap.size w.heap.size n D m ∧ Below w.heap.size w (W.alloc (.cells #[.map (some w.heap.size)] 72)) ∧ w.heap.size ≤ W.heap.size ∧ w.heap.size ≤ w.heap.size) := by
    have hb2 : Below w.heap.size w (W.alloc (.cells #[.map (some w.heap.size)] 72)) := hbW.alloc hbW.size _
    have hb3 : Below W.heap.size W (W.alloc (.cells #[.map (some w.heap.size)] 72)) := (Below.refl _ W).alloc (Nat.le_refl _) _
    refine ⟨⟨heap_alloc_new W _, ⟨es, ck, (hb3.block _ (by omega)).trans hMW, k2⟩, hH.no, fun x l hx hl => ?_, hH.desc, hH.wf⟩, hb2, by omega, Nat.le_refl _⟩
    obtain ⟨v, q1, q2⟩ := hH.yes x l hx hl
    exact ⟨v, q1, q2.below hb2⟩
  rw [hsz] at HF
  clear hH hbW hMW k1 k2
  go_enter Tryd.func21, Tryd.ntmps21
  go_wp2_with fail
  refine H36.mono ?_
  rintro e w1 ⟨rfl, rfl⟩
  clear H36 c0
  go_wp2_with fail
  go_ret
  exact ⟨_, _, rfl, HF⟩
end Go.Proofs.YtojobiefambkoaaDoor
