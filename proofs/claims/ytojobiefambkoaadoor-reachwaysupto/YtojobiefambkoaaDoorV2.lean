/- isLocal and Global: a range over the iterator. -/
import Derived.Test.YtojobiefambkoaaDoorV1
import Derived.Test.YtojobiefambkoaaDoorW18
namespace Go.Proofs.YtojobiefambkoaaDoor
open Go.RowKit Go.Shelf
attribute [local go_sem] Oper.semAt_some
set_option maxHeartbeats 1000000 in
theorem isLocal_in (F : Fence) (n : Nat) (h56 : F.fn 59) (hro : F.round = none) (a b : Int) (w : World) :
    CallsIn F n Tryd.prog 59 #[.agg #[.int .i64 a, .int .i64 b]] w fun e w' => e = .returned (.bool (a == -1)) ∧ w' = w.alloc (.cells #[.int .i64 a, .int .i64 b] 34) := by
  refine callsIn_of_wp Tryd.func59 rfl h56 ?_ hro
  simp only [Tryd.ntmps59, List.size_toArray, List.length_cons, List.length_nil, Nat.reduceAdd, Nat.reduceSub, Array.replicate_succ, Array.replicate_zero, List.push_toArray, List.append_toArray, List.nil_append, List.cons_append]
  gi_wp2
  go_ret
  exact ⟨rfl, rfl⟩
/-- A pair that lies in a block of its own. -/
def Pair (W : World) (B : Nat) (t : TypeId) (a b : Int) : Prop := W.heap[B]? = some (.cells #[.int .i64 a, .int .i64 b] t (0, 0))
theorem Pair.cell0 {W : World} {B : Nat} {t : TypeId} {a b : Int} (h : Pair W B t a b) : W.cell? ⟨B, 0, none⟩ = some (.int .i64 a) := by simp [World.cell?, show W.heap[B]? = _ from h]
theorem Pair.cell1 {W : World} {B : Nat} {t : TypeId} {a b : Int} (h : Pair W B t a b) : W.cell? ⟨B, 1, none⟩ = some (.int .i64 b) := by simp [World.cell?, show W.heap[B]? = _ from h]
theorem Pair.lt {W : World} {B : Nat} {t : TypeId} {a b : Int} (h : Pair W B t a b) : B < W.heap.size := (Array.getElem?_eq_some_iff.1 h).1
theorem Pair.new (W : World) (t : TypeId) (a b : Int) : Pair (W.alloc (.cells #[.int .i64 a, .int .i64 b] t)) W.heap.size t a b := World.alloc_heap_new W _
theorem Pair.kept {W W' : World} {row : Option Nat} {B : Nat} {t : TypeId} {a b : Int} (h : Pair W B t a b) (hg : W.grownBy W' row) (hr : ∀ r, row = some r → ∃ o : Obj, W.heap[r]? = some o ∧ o.isCells = false) : Pair W' B t a b :=
  (hg.block B h.lt (fun e => by
    obtain ⟨o, h1, h2⟩ := hr B e.symm
    rw [show W.heap[B]? = _ from h] at h1
    cases h1
    cases h2)).trans h
def globalB (l : List C) : Bool := (varsOf l).all (fun x => !(x.1 == -1)) && rightB l
set_option maxRecDepth 100000 in
set_option maxHeartbeats 4000000 in
theorem c36 (l : List C) (v : Value) (w : World) (h : TermAt w v l) (hS : Signs w) :
    Calls Tryd.prog 36 #[v] w fun e w' => e = .returned (.bool (globalB l)) ∧ Below w.heap.size w w' := by
  refine (callsIn_wide (n := 6)).1 ?_
  have HT : Hid (TermAt w v l) := h
  have HS : Hid (Signs w) := hS
  obtain ⟨ad, cap, hv⟩ := h.form
  subst hv
  clear h hS
  refine callsIn_of_wp_marks Tryd.func36 rfl trivial ?_ rfl
  simp only [Tryd.ntmps36, List.size_toArray, List.length_cons, List.length_nil, Nat.reduceAdd, Nat.reduceSub, Array.replicate_succ, Array.replicate_zero, List.push_toArray, List.append_toArray, List.nil_append, List.cons_append]
  gi_wp2_with (refine ⟨trivial, ?_⟩; gi_at_call 58; refine (variables_in Fence.wide _ trivial rfl _ _ ⟨_, _, _, rfl⟩).mono ?_; rintro e w' ⟨rfl, rfl⟩)
  have bS := ((Boxed.new w 4 (.bool false)).alloc (.cells #[.slice ad l.length cap] 38)).alloc (.cells #[.slice (some ⟨w.heap.size + 1, 0, none⟩) 1 1] 74)
  have bT := (Boxed.new (w.alloc (.cells #[.bool false] 4)) 38 (.slice ad l.length cap)).alloc (.cells #[.slice (some ⟨w.heap.size + 1, 0, none⟩) 1 1] 74)
  have bL := Boxed.new ((w.alloc (.cells #[.bool false] 4)).alloc (.cells #[.slice ad l.length cap] 38)) 74 (.slice (some ⟨w.heap.size + 1, 0, none⟩) 1 1)
  simp only [World.size_alloc] at bT bL
  have hB0 : Below w.heap.size w (((w.alloc (.cells #[.bool false] 4)).alloc (.cells #[.slice ad l.length cap] 38)).alloc (.cells #[.slice (some ⟨w.heap.size + 1, 0, none⟩) 1 1] 74)) := (((Below.refl _ w).alloc (Nat.le_refl _) _).alloc (by simp) _).alloc (by simp; omega) _
  have hsz : (((w.alloc (.cells #[.bool false] 4)).alloc (.cells #[.slice ad l.length cap] 38)).alloc (.cells #[.slice (some ⟨w.heap.size + 1, 0, none⟩) 1 1] 74)).heap.size = w.heap.size + 3 := by simp
  obtain ⟨W0, hW0⟩ : ∃ W0, (((w.alloc (.cells #[.bool false] 4)).alloc (.cells #[.slice ad l.length cap] 38)).alloc (.cells #[.slice (some ⟨w.heap.size + 1, 0, none⟩) 1 1] 74)) = W0 := ⟨_, rfl⟩
  rw [hW0] at bS bT bL hB0 hsz ⊢
  clear hW0
  have hrow : RowAt W0 (.slice (some ⟨w.heap.size + 1, 0, none⟩) 1 1) [l] := by
    refine ⟨by simp [maxLen], .inr ⟨_, _, _, [.slice ad l.length cap], rfl, by simp, by simp [maxLen], by omega, rfl, ?_, ?_⟩⟩
    · intro i u hu
      match i, hu with
      | 0, hu => simp at hu; subst hu; exact bT.cell
    · intro i u x hu hx
      match i, hu, hx with
      | 0, hu, hx => simp at hu hx; subst hu hx; exact HT.out.below hB0
  have hva : varsAll [l] = varsOf l := by simp [varsAll]
  refine wpIn_rangeFunc_ownH rfl (by decide) (gf := 80) (lb := #[.pointer (some ⟨w.heap.size + 1 + 1, 0, none⟩)]) rfl trivial (enters_of Tryd.func80 (by kernel_rfl) rfl)
    (vars_stops Fence.wide 5 trivial rfl (by decide) (fun _ => True) (w.heap.size + 1 + 1) [l] _ W0 W0 (by omega) (Below.refl _ _) bL.cell hrow (fun _ _ => trivial)) belowK_t (belowK_b (Nat.le_refl _)) (Below.refl _ _) (fun _ => rfl)
    (fun pre W => ((∀ y ∈ pre, (y.1.1 == -1) = false) ∧ Boxed W w.heap.size 4 (.bool false)) ∧ Below W0.heap.size W0 W)
    (fun c pre W => (c = .ret ∧ (∃ y ∈ pre, (y.1.1 == -1) = true) ∧ Boxed W w.heap.size 4 (.bool false)) ∧ Below w.heap.size w W)
    (OwnFrom.and (Own.from (fun s A B row hs hg hr => ⟨hs.1, boxed_own w.heap.size 4 (fun (_ : Unit) => Value.bool false) () A B row hs.2 hg hr⟩) _) (ownFrom_below (Nat.le_refl _) (Nat.le_refl _)))
    (fun c => OwnFrom.and (Own.from (fun s A B row hs hg hr => ⟨hs.1, hs.2.1, boxed_own w.heap.size 4 (fun (_ : Unit) => Value.bool false) () A B row hs.2.2 hg hr⟩) _) (ownFrom_below (Nat.le_refl _) (by omega)))
    ⟨⟨by simp, bS⟩, Below.refl _ _⟩
    (fun x a' W => ∃ Bx, Pair W Bx 34 x.1.1 x.1.2 ∧ a' = { tmps := #[.slice ad l.length cap, undef, .pointer (some ⟨w.heap.size, 0, none⟩), .pointer (some ⟨Bx, 0, none⟩), .slice ad l.length cap, .slice (some ⟨w.heap.size + 1, 0, none⟩) 1 1, .func (.func 80) #[] #[.pointer (some ⟨w.heap.size + 1 + 1, 0, none⟩)], .agg #[.int .i64 x.1.1, .int .i64 x.1.2], undef, undef, undef, undef], defers := [] })
    (fun x a' _ X Y row hs hg hr => by obtain ⟨Bx, h2, h3⟩ := hs; exact ⟨Bx, h2.kept hg (fun r e => (hr r e).2), h3⟩)
    ?assign ?body ?done ?stop
  case assign =>
    rintro lp pre x W K ⟨⟨hp, b1⟩, hB1⟩ hK
    gi_wp2
    exact hK _ _ ((KeepsOthers.alloc _ _).from _) ((Below.refl _ W).alloc hB1.size _) ⟨⟨hp, b1.alloc _⟩, hB1.alloc hB1.size _⟩ ⟨W.heap.size, Pair.new W 34 _ _, rfl⟩
  case body =>
    rintro lp pre x a' W hl ⟨r, hr⟩ ⟨⟨hp, b1⟩, hB1⟩ ⟨Bx, bX, rfl⟩ hlt
    have cX0 := bX.cell0
    have cX1 := bX.cell1
    have b2 := b1.alloc (.cells #[.int .i64 x.1.1, .int .i64 x.1.2] 34)
    have c1 := b2.cell
    have f1 := b2.frozen
    have HBW : Hid (Below w.heap.size w W) := hB0.trans (hB1.mono hB0.size)
    have HP : Hid (∀ y ∈ pre, (y.1.1 == -1) = false) := hp
    clear hp hr hlt
    gi_wp2_with (refine ⟨trivial, ?_⟩; gi_at_call 59; refine (CallsIn.inRound lp (isLocal_in Fence.wide _ trivial rfl _ _ _)).mono ?_; rintro e w' ⟨rfl, rfl⟩)
    · rename_i hx
      refine ⟨((KeepsOthers.alloc _ _).trans (KeepsOthers.setCell _ _ _)).from _, ⟨rfl, ⟨x, by simp, hx⟩, b2.set _⟩, ?_⟩
      exact (HBW.out.alloc HBW.out.size _).setCell (p := ⟨w.heap.size, 0, none⟩) (Nat.le_refl _) _
    · rename_i hx
      refine ⟨(KeepsOthers.alloc _ _).from _, (Below.refl _ W).alloc hB1.size _, ⟨fun y hy => ?_, b2⟩, hB1.alloc hB1.size _⟩
      rcases List.mem_append.1 hy with hy | hy
      · exact HP.out y hy
      · simp only [List.mem_singleton] at hy
        subst hy
        simpa using hx
  case done =>
    rintro D zs W hD hzs ⟨⟨hp, b1⟩, hB1⟩ hK
    have c1 := b1.cell
    have f1 := b1.frozen
    have HBW : Hid (Below w.heap.size w W) := hB0.trans (hB1.mono hB0.size)
    have H22 := c22 l _ W (HT.out.below HBW.out) (HS.out.below HBW.out)
    have hlt1 := b1.lt
    have hg : globalB l = rightB l := by
      unfold globalB
      rw [List.all_eq_true.2 (fun x hx => ?_), Bool.true_and]
      rw [← hva, ← hzs] at hx
      obtain ⟨y, hy, rfl⟩ := List.mem_map.1 hx
      simp [hp y hy]
    have hDl : D < W.heap.size := (Array.getElem?_eq_some_iff.1 hK).1
    gi_wp2_with (refine ⟨trivial, ?_⟩; gi_at_call 40; refine (callsIn_wide.2 H22).mono ?_; rintro e w' ⟨rfl, hb22⟩; have b3 : Boxed w' w.heap.size 4 (.bool false) := (hb22.block w.heap.size hlt1).trans b1; have hK2 := (hb22.block D hDl).trans hK; have c3 := b3.cell; have f3 := b3.frozen)
    have hK' := (KeepsOthers.setCell w' ⟨w.heap.size, 0, none⟩ (.bool (rightB l))).same D _ hK2 rfl
    refine ⟨by simp, .inl ⟨_, _, rfl, run_takeDeferred hK', ?_⟩⟩
    have hc5 := cell_kept (b3.set (.bool (rightB l))).cell (grownBy_putObj' _ D (.deferred none)) (fun r e => by cases e; exact ⟨_, hK', rfl⟩)
    refine ⟨.bool (rightB l), ?_, by rw [hg], ((HBW.out.trans (hb22.mono HBW.out.size)).setCell (p := ⟨w.heap.size, 0, none⟩) (Nat.le_refl _) _).trans (belowK_b (w := w) (Nat.le_refl _) _ D _ _ (by omega) hK' rfl rfl)⟩
    simp [results, Tryd.f36, go_sem, hc5]
  case stop =>
    rintro D c pre W hD hpre ⟨⟨rfl, hin, b1⟩, hB1⟩ hK
    have c1 := b1.cell
    have hg : globalB l = false := by
      obtain ⟨y, hy, hy1⟩ := hin
      unfold globalB
      rw [List.all_eq_false.2 ⟨y.1, ?_, by simp [hy1]⟩, Bool.false_and]
      rw [← hva]
      exact hpre.subset (List.mem_map.2 ⟨y, hy, rfl⟩)
    gi_wp2
    refine ⟨by simp, .inl ⟨_, _, rfl, run_takeDeferred hK, ?_⟩⟩
    have hc5 := cell_kept c1 (grownBy_putObj' _ D (.deferred none)) (fun r e => by cases e; exact ⟨_, hK, rfl⟩)
    refine ⟨.bool false, ?_, by rw [hg], hB1.trans (belowK_b (w := w) (Nat.le_refl _) W D _ _ (by omega) hK rfl rfl)⟩
    simp [results, Tryd.f36, go_sem, hc5]
end Go.Proofs.YtojobiefambkoaaDoor
