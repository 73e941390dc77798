/- isLocal and Global: a range over the iterator. rightLocals and lacks. Contract of Put: for every term and row of locals it returns the term with them put in, or its error. Rows of names in memory; the reference HasName, SameNames. The reference Vars, VarsOf, Global. Contract of Vars: each name once, in the order in which they first come. -/
import Derived.Test.YtaehhophaaipdaaGreatDoorV1g
import Derived.Test.YtaehhophaaipdaaGreatDoorQCg
import Derived.Test.YtaehhophaaipdaaGreatDoorQBg
import Derived.Maps.OwnIn
import Derived.Maps.Views
import Derived.DeepKeys4
namespace Go.Proofs.YtaehhophaaipdaaGreatDoor
open Go.RowKit Go.Shelf
attribute [local go_sem] Oper.semAt_some
set_option maxHeartbeats 1000000 in
theorem isLocal_in (F : Fence) (n : Nat) (h56 : F.fn 86) (hro : F.round = none) (a b : Int) (w : World) :
  CallsIn F n Tryz.prog 86 #[.agg #[.int .i64 a, .int .i64 b]] w fun e w' => e = .returned (.bool (a == -1)) ∧ w' = w.alloc (.cells #[.int .i64 a, .int .i64 b] 60) := by
 refine callsIn_of_wp Tryz.func86 rfl h56 ?_ hro
 simp only [Tryz.ntmps86, List.size_toArray, List.length_cons, List.length_nil, Nat.reduceAdd, Nat.reduceSub, Array.replicate_succ, Array.replicate_zero, List.push_toArray, List.append_toArray, List.nil_append, List.cons_append]
 gi_wp2
 go_ret
 exact ⟨rfl, rfl⟩
/-- A pair that lies in a block of its own. -/
def Pair (W : World) (B : Nat) (t : TypeId) (a b : Int) : Prop := W.heap[B]? = some (.cells #[.int .i64 a, .int .i64 b] t (0, 0))
theorem Pair.cell0 {W : World} {B : Nat} {t : TypeId} {a b : Int} (h : Pair W B t a b) : W.cell? ⟨B, 0, none⟩ = some (.int .i64 a) := by simp [World.cell?, show W.heap[B]? = _ from h]
theorem Pair.cell1 {W : World} {B : Nat} {t : TypeId} {a b : Int} (h : Pair W B t a b) : W.cell? ⟨B, 1, none⟩ = some (.int .i64 b) := by simp [World.cell?, show W.heap[B]? = _ from h]
theorem Pair.lt {W : World} {B : Nat} {t : TypeId} {a b : Int} (h : Pair W B t a b) : B < W.heap.size := (Array.getElem?_eq_some_iff.1 h).1
theorem Pair.new (W : World) (t : TypeId) (a b : Int) : Pair (W.alloc (.cells #[.int .i64 a, .int .i64 b] t)) W.heap.size t a b := World.alloc_heap_new W _
theorem Pair.kept {W W' : World} {row : Option Nat} {B : Nat} {t : TypeId} {a b : Int} (h : Pair W B t a b) (hg : W.grownBy W' row) (hr : ∀ r, row = some r → ∃ o : Obj, W.heap[r]? = some o ∧ o.isCells = false) : Pair W' B t a b :=
 (hg.block B h.lt (fun e => by
  obtain ⟨o, h1, h2⟩ := hr B e.symm
  rw [show W.heap[B]? = _ from h] at h1
  cases h1
  cases h2)).trans h
def globalB (l : List C) : Bool := (varsOf l).all (fun x => !(x.1 == -1)) && rightB l
set_option maxRecDepth 100000 in
set_option maxHeartbeats 4000000 in
theorem c36 (l : List C) (v : Value) (w : World) (h : TermAt w v l) (hS : Signs w) :
  Calls Tryz.prog 56 #[v] w fun e w' => e = .returned (.bool (globalB l)) ∧ Below w.heap.size w w' := by
 refine (callsIn_wide (n := 6)).1 ?_
 have HT : Hid (TermAt w v l) := h
 have HS : Hid (Signs w) := hS
 obtain ⟨ad, cap, hv⟩ := h.form
 subst hv
 clear h hS
 refine callsIn_of_wp_marks Tryz.func56 rfl trivial ?_ rfl
 simp only [Tryz.ntmps56, List.size_toArray, List.length_cons, List.length_nil, Nat.reduceAdd, Nat.reduceSub, Array.replicate_succ, Array.replicate_zero, List.push_toArray, List.append_toArray, List.nil_append, List.cons_append]
 gi_wp2_with (refine ⟨trivial, ?_⟩; gi_at_call 85; refine (variables_in Fence.wide _ trivial rfl _ _ ⟨_, _, _, rfl⟩).mono ?_; rintro e w' ⟨rfl, rfl⟩)
 have bS := ((Boxed.new w 4 (.bool false)).alloc (.cells #[.slice ad l.length cap] 24)).alloc (.cells #[.slice (some ⟨w.heap.size + 1, 0, none⟩) 1 1] 39)
 have bT := (Boxed.new (w.alloc (.cells #[.bool false] 4)) 24 (.slice ad l.length cap)).alloc (.cells #[.slice (some ⟨w.heap.size + 1, 0, none⟩) 1 1] 39)
 have bL := Boxed.new ((w.alloc (.cells #[.bool false] 4)).alloc (.cells #[.slice ad l.length cap] 24)) 39 (.slice (some ⟨w.heap.size + 1, 0, none⟩) 1 1)
 simp only [World.size_alloc] at bT bL
 have hB0 : Below w.heap.size w (((w.alloc (.cells #[.bool false] 4)).alloc (.cells #[.slice ad l.length cap] 24)).alloc (.cells #[.slice (some ⟨w.heap.size + 1, 0, none⟩) 1 1] 39)) := (((Below.refl _ w).alloc (Nat.le_refl _) _).alloc (by simp) _).alloc (by simp; omega) _
 have hsz : (((w.alloc (.cells #[.bool false] 4)).alloc (.cells #[.slice ad l.length cap] 24)).alloc (.cells #[.slice (some ⟨w.heap.size + 1, 0, none⟩) 1 1] 39)).heap.size = w.heap.size + 3 := by simp
 obtain ⟨W0, hW0⟩ : ∃ W0, (((w.alloc (.cells #[.bool false] 4)).alloc (.cells #[.slice ad l.length cap] 24)).alloc (.cells #[.slice (some ⟨w.heap.size + 1, 0, none⟩) 1 1] 39)) = W0 := ⟨_, rfl⟩
 rw [hW0] at bS bT bL hB0 hsz ⊢
 clear hW0
 have hrow : RowAt W0 (.slice (some ⟨w.heap.size + 1, 0, none⟩) 1 1) [l] := by
  refine ⟨by simp [maxLen], .inr ⟨_, _, _, [.slice ad l.length cap], rfl, by simp, by simp [maxLen], by omega, rfl, ?_, ?_⟩⟩
  ·intro i u hu
   match i, hu with
   | 0, hu => simp at hu; subst hu; exact bT.cell
  ·intro i u x hu hx
   match i, hu, hx with
   | 0, hu, hx => simp at hu hx; subst hu hx; exact HT.out.below hB0
 have hva : varsAll [l] = varsOf l := by simp [varsAll]
 refine wpIn_rangeFunc_ownH rfl (by decide) (gf := 125) (lb := #[.pointer (some ⟨w.heap.size + 1 + 1, 0, none⟩)]) rfl trivial (enters_of Tryz.func125 (by kernel_rfl) rfl)
  (vars_stops Fence.wide 5 trivial rfl (by decide) (fun _ => True) (w.heap.size + 1 + 1) [l] _ W0 W0 (by omega) (Below.refl _ _) bL.cell hrow (fun _ _ => trivial)) belowK_t (belowK_b (Nat.le_refl _)) (Below.refl _ _) (fun _ => rfl)
  (fun pre W => ((∀ y ∈ pre, (y.1.1 == -1) = false) ∧ Boxed W w.heap.size 4 (.bool false)) ∧ Below W0.heap.size W0 W)
  (fun c pre W => (c = .ret ∧ (∃ y ∈ pre, (y.1.1 == -1) = true) ∧ Boxed W w.heap.size 4 (.bool false)) ∧ Below w.heap.size w W)
  (OwnFrom.and (Own.from (fun s A B row hs hg hr => ⟨hs.1, boxed_own w.heap.size 4 (fun (_ : Unit) => Value.bool false) () A B row hs.2 hg hr⟩) _) (ownFrom_below (Nat.le_refl _) (Nat.le_refl _)))
  (fun c => OwnFrom.and (Own.from (fun s A B row hs hg hr => ⟨hs.1, hs.2.1, boxed_own w.heap.size 4 (fun (_ : Unit) => Value.bool false) () A B row hs.2.2 hg hr⟩) _) (ownFrom_below (Nat.le_refl _) (by omega)))
  ⟨⟨by simp, bS⟩, Below.refl _ _⟩
  (fun x a' W => ∃ Bx, Pair W Bx 60 x.1.1 x.1.2 ∧ a' = { tmps := #[.slice ad l.length cap, undef, .pointer (some ⟨w.heap.size, 0, none⟩), .pointer (some ⟨Bx, 0, none⟩), .slice ad l.length cap, .slice (some ⟨w.heap.size + 1, 0, none⟩) 1 1, .func (.func 125) #[] #[.pointer (some ⟨w.heap.size + 1 + 1, 0, none⟩)], .agg #[.int .i64 x.1.1, .int .i64 x.1.2], undef, undef, undef, undef], defers := [] })
  (fun x a' _ X Y row hs hg hr => by obtain ⟨Bx, h2, h3⟩ := hs; exact ⟨Bx, h2.kept hg (fun r e => (hr r e).2), h3⟩)
  ?assign ?body ?done ?stop
 case assign =>
  rintro lp pre x W K ⟨⟨hp, b1⟩, hB1⟩ hK
  gi_wp2
  exact hK _ _ ((KeepsOthers.alloc _ _).from _) ((Below.refl _ W).alloc hB1.size _) ⟨⟨hp, b1.alloc _⟩, hB1.alloc hB1.size _⟩ ⟨W.heap.size, Pair.new W 60 _ _, rfl⟩
 case body =>
  rintro lp pre x a' W hl ⟨r, hr⟩ ⟨⟨hp, b1⟩, hB1⟩ ⟨Bx, bX, rfl⟩ hlt
  have cX0 := bX.cell0
  have cX1 := bX.cell1
  have b2 := b1.alloc (.cells #[.int .i64 x.1.1, .int .i64 x.1.2] 60)
  have c1 := b2.cell
  have f1 := b2.frozen
  have HBW : Hid (Below w.heap.size w W) := hB0.trans (hB1.mono hB0.size)
  have HP : Hid (∀ y ∈ pre, (y.1.1 == -1) = false) := hp
  clear hp hr hlt
  gi_wp2_with (refine ⟨trivial, ?_⟩; gi_at_call 86; refine (CallsIn.inRound lp (isLocal_in Fence.wide _ trivial rfl _ _ _)).mono ?_; rintro e w' ⟨rfl, rfl⟩)
  ·rename_i hx
   refine ⟨((KeepsOthers.alloc _ _).trans (KeepsOthers.setCell _ _ _)).from _, ⟨rfl, ⟨x, by simp, hx⟩, b2.set _⟩, ?_⟩
   exact (HBW.out.alloc HBW.out.size _).setCell (p := ⟨w.heap.size, 0, none⟩) (Nat.le_refl _) _
  ·rename_i hx
   refine ⟨(KeepsOthers.alloc _ _).from _, (Below.refl _ W).alloc hB1.size _, ⟨fun y hy => ?_, b2⟩, hB1.alloc hB1.size _⟩
   rcases List.mem_append.1 hy with hy | hy
   ·exact HP.out y hy
   ·simp only [List.mem_singleton] at hy
    subst hy
    simpa using hx
 case done =>
  rintro D zs W hD hzs ⟨⟨hp, b1⟩, hB1⟩ hK
  have c1 := b1.cell
  have f1 := b1.frozen
  have HBW : Hid (Below w.heap.size w W) := hB0.trans (hB1.mono hB0.size)
  have H22 := c22 l _ W (HT.out.below HBW.out) (HS.out.below HBW.out)
  have hlt1 := b1.lt
  have hg : globalB l = rightB l := by
   unfold globalB
   rw [List.all_eq_true.2 (fun x hx => ?_), Bool.true_and]
   rw [← hva, ← hzs] at hx
   obtain ⟨y, hy, rfl⟩ := List.mem_map.1 hx
   simp [hp y hy]
  have hDl : D < W.heap.size := (Array.getElem?_eq_some_iff.1 hK).1
  gi_wp2_with (refine ⟨trivial, ?_⟩; gi_at_call 32; refine (callsIn_wide.2 H22).mono ?_; rintro e w' ⟨rfl, hb22⟩; have b3 : Boxed w' w.heap.size 4 (.bool false) := (hb22.block w.heap.size hlt1).trans b1; have hK2 := (hb22.block D hDl).trans hK; have c3 := b3.cell; have f3 := b3.frozen)
  have hK' := (KeepsOthers.setCell w' ⟨w.heap.size, 0, none⟩ (.bool (rightB l))).same D _ hK2 rfl
  refine ⟨by simp, .inl ⟨_, _, rfl, run_takeDeferred hK', ?_⟩⟩
  have hc5 := cell_kept (b3.set (.bool (rightB l))).cell (grownBy_putObj' _ D (.deferred none)) (fun r e => by cases e; exact ⟨_, hK', rfl⟩)
  refine ⟨.bool (rightB l), ?_, by rw [hg], ((HBW.out.trans (hb22.mono HBW.out.size)).setCell (p := ⟨w.heap.size, 0, none⟩) (Nat.le_refl _) _).trans (belowK_b (w := w) (Nat.le_refl _) _ D _ _ (by omega) hK' rfl rfl)⟩
  simp [results, Tryz.f56, go_sem, hc5]
 case stop =>
  rintro D c pre W hD hpre ⟨⟨rfl, hin, b1⟩, hB1⟩ hK
  have c1 := b1.cell
  have hg : globalB l = false := by
   obtain ⟨y, hy, hy1⟩ := hin
   unfold globalB
   rw [List.all_eq_false.2 ⟨y.1, ?_, by simp [hy1]⟩, Bool.false_and]
   rw [← hva]
   exact hpre.subset (List.mem_map.2 ⟨y, hy, rfl⟩)
  gi_wp2
  refine ⟨by simp, .inl ⟨_, _, rfl, run_takeDeferred hK, ?_⟩⟩
  have hc5 := cell_kept c1 (grownBy_putObj' _ D (.deferred none)) (fun r e => by cases e; exact ⟨_, hK, rfl⟩)
  refine ⟨.bool false, ?_, by rw [hg], hB1.trans (belowK_b (w := w) (Nat.le_refl _) W D _ _ (by omega) hK rfl rfl)⟩
  simp [results, Tryz.f56, go_sem, hc5]
end Go.Proofs.YtaehhophaaipdaaGreatDoor

namespace Go.Proofs.YtaehhophaaipdaaGreatDoor
open Go.RowKit Go.Shelf
attribute [local go_sem] Oper.semAt_some
/-- The variables of a right term. -/
theorem right_vars {l : List C} (h : rightB l = true) : ∀ x ∈ varsOf l, 0 ≤ x.2 ∧ -1 ≤ x.1 := by
 intro x hx
 unfold varsOf at hx
 obtain ⟨c, hc, rfl⟩ := List.mem_map.1 hx
 rw [List.mem_filter] at hc
 unfold rightB at h
 simp only [Bool.and_eq_true] at h
 have h1 := h.1.2
 unfold cellsB at h1
 have h2 := List.all_eq_true.1 h1 c hc.1
 have h3 : c.k = 4 := by simpa using hc.2
 unfold C.ok cellB at h2
 rw [h3] at h2
 simp [between] at h2
 simp; omega
end Go.Proofs.YtaehhophaaipdaaGreatDoor

namespace Go.Proofs.YtaehhophaaipdaaGreatDoor
open Go.RowKit Go.Shelf
theorem owns_form {w : World} {base : Nat} {e : TypeId} {s : Nat} {v : Value} {n : Nat} {xs : List Value} (h : w.ownsRow base e s v n xs) : ∃ ad cap, v = .slice ad n cap := by
 rcases h.2 with ⟨h1, h2⟩ | ⟨g, cap, cur, h1, _⟩
 ·exact ⟨none, 0, by rw [h1, h2]⟩
 ·exact ⟨_, _, h1⟩
end Go.Proofs.YtaehhophaaipdaaGreatDoor

namespace Go.Proofs.YtaehhophaaipdaaGreatDoor
open Go.RowKit
attribute [local go_sem ↓] Go.wp_at_zero Go.wp_at_succ
abbrev Nm := Int × Int
def nmV (x : Nm) : List Value := [.int .i64 x.1, .int .i64 x.2]
def flatN (l : List Nm) : List Value := l.flatMap nmV
theorem flatN_append (a b : List Nm) : flatN (a ++ b) = flatN a ++ flatN b := by simp [flatN]
theorem flatN_length (l : List Nm) : (flatN l).length = l.length * 2 := by
 induction l with
 | nil => rfl
 | cons a r ih => simp [flatN, nmV] at *; omega
theorem flatN_get (l : List Nm) (i j : Nat) (hi : i < l.length) (hj : j < 2) : (flatN l)[2 * i + j]? = (nmV l[i])[j]? := by
 induction l generalizing i with
 | nil => simp at hi
 | cons a r ih =>
  cases i with
  | zero =>
   simp only [flatN, List.flatMap_cons]
   rw [List.getElem?_append_left (by simp [nmV]; omega)]
   simp
  | succ i =>
   simp only [flatN, List.flatMap_cons]
   rw [List.getElem?_append_right (by simp [nmV]; omega)]
   have e : 2 * (i + 1) + j - (nmV a).length = 2 * i + j := by simp [nmV]; omega
   rw [e]
   exact ih i (by simpa using hi)
theorem flatN_one (l : List Nm) : ∀ u ∈ flatN l, u.oneCell' = true := by
 intro u hu
 simp only [flatN, List.mem_flatMap] at hu
 obtain ⟨c, _, hc⟩ := hu
 simp only [nmV, List.mem_cons, List.not_mem_nil, or_false] at hc
 rcases hc with rfl | rfl <;> rfl
theorem name_cells {w : World} {b o : Nat} {l : List Nm} (h : w.rangeAt b o (flatN l)) (i : Nat) (hi : i < l.length) :
  w.cell? ⟨b, o + i * 2, none⟩ = some (.int .i64 l[i].1) ∧ w.cell? ⟨b, o + i * 2 + 1, none⟩ = some (.int .i64 l[i].2) := by
 have g : ∀ j v, j < 2 → (nmV l[i])[j]? = some v → w.cell? ⟨b, o + i * 2 + j, none⟩ = some v := by
  intro j v hj hv
  have := h (2 * i + j) v (by rw [flatN_get l i j hi hj]; exact hv)
  rw [show o + (2 * i + j) = o + i * 2 + j by omega] at this
  exact this
 exact ⟨g 0 _ (by omega) rfl, g 1 _ (by omega) rfl⟩
/-- A row of names in memory. -/
def NamesAt (w : World) (v : Value) (l : List Nm) : Prop :=
 l.length ≤ maxLen ∧ ((l = [] ∧ ∃ ad : Option Addr, v = .slice ad 0 0) ∨ ∃ b o cap : Nat, v = .slice (some ⟨b, o, none⟩) l.length cap ∧ w.rangeAt b o (flatN l) ∧ b < w.heap.size)
theorem NamesAt.below {w w' : World} {v : Value} {l : List Nm} (h : NamesAt w v l) (hb : Below w.heap.size w w') : NamesAt w' v l := by
 obtain ⟨h0, h⟩ := h
 refine ⟨h0, ?_⟩
 rcases h with h | ⟨b, o, cap, h1, h3, h4⟩
 ·exact Or.inl h
 ·exact Or.inr ⟨b, o, cap, h1, range_below h3 h4 hb, Nat.lt_of_lt_of_le h4 hb.size⟩
theorem NamesAt.form {w : World} {v : Value} {l : List Nm} (h : NamesAt w v l) : ∃ (ad : Option Addr) (cap : Nat), v = .slice ad l.length cap := by
 rcases h.2 with ⟨rfl, ad, rfl⟩ | ⟨b, o, cap, rfl, _⟩
 ·exact ⟨ad, 0, rfl⟩
 ·exact ⟨_, _, rfl⟩
def OwnN (w : World) (base : Nat) (u : Value) (l : List Nm) : Prop := w.ownsRow base 60 2 u l.length (flatN l)
theorem range_of_owns {w : World} {g : Nat} {cur : Array Value} {e : TypeId} {m : Nat} {xs : List Value} (h3 : w.heap[g]? = some (.cells cur e (0, 0))) (h7 : cur.toList.take m = xs) : w.rangeAt g 0 xs := by
 intro j u hu
 rw [cell_of_row _ _ _ _ _ _ h3]
 rw [← h7] at hu
 rw [List.getElem?_take] at hu
 split at hu
 ·simpa using hu
 ·cases hu
theorem namesAt_of_owns {w : World} {base : Nat} {v : Value} {l : List Nm} (h : OwnN w base v l) (hl : l.length ≤ maxLen) : NamesAt w v l := by
 refine ⟨hl, ?_⟩
 rcases h.2 with ⟨h1, h2⟩ | ⟨g, cap, cur, h1, h2, h3, h4, h5, h6, h7⟩
 ·exact Or.inl ⟨List.eq_nil_of_length_eq_zero h2, none, h1⟩
 ·exact Or.inr ⟨g, 0, cap, h1, range_of_owns h3 h7, (Array.getElem?_eq_some_iff.1 h3).1⟩
theorem owns_below {w w' : World} {base : Nat} {e : TypeId} {s n : Nat} {u : Value} {xs : List Value} (h : w.ownsRow base e s u n xs) (hb : Below w.heap.size w w') : w'.ownsRow base e s u n xs := by
 refine ⟨h.1, ?_⟩
 rcases h.2 with hn | ⟨g, cap, cur, h1, h2, h3, h4⟩
 ·exact Or.inl hn
 ·exact Or.inr ⟨g, cap, cur, h1, h2, (hb.block g (Array.getElem?_eq_some_iff.1 h3).1).trans h3, h4⟩
theorem eql23b (a b c d : Int) (w : World) :
  (binOp .eql 60 (.agg #[.int .i64 a, .int .i64 b]) (.agg #[.int .i64 c, .int .i64 d])).run Tryz.prog w = .ok (.bool (a == c && b == d)) w := by
 cases h1 : (a == c) <;> cases h2 : (b == d) <;> go_simp
theorem neq23 (a b c d : Int) (w : World) :
  (binOp .neq 60 (.agg #[.int .i64 a, .int .i64 b]) (.agg #[.int .i64 c, .int .i64 d])).run Tryz.prog w = .ok (.bool (!(a == c && b == d))) w := by
 cases h1 : (a == c) <;> cases h2 : (b == d) <;> go_simp
def eqN (x y : Nm) : Bool := x.1 == y.1 && x.2 == y.2
theorem eqN_iff (x y : Nm) : eqN x y = true ↔ x = y := by
 unfold eqN
 simp [Prod.ext_iff]
def hasN (l : List Nm) (x : Nm) : Bool := l.any fun y => eqN y x
theorem hasN_iff (l : List Nm) (x : Nm) : hasN l x = true ↔ x ∈ l := by
 unfold hasN
 simp only [List.any_eq_true, eqN_iff]
 exact ⟨fun ⟨y, h1, h2⟩ => h2 ▸ h1, fun h => ⟨x, h, rfl⟩⟩
set_option maxHeartbeats 1000000 in
theorem c43_nil (ad : Option Addr) (a b : Int) (w : World) :
  Calls Tryz.prog 77 #[.slice ad 0 0, .agg #[.int .i64 a, .int .i64 b]] w fun e w' => e = .returned (.bool false) ∧ Below w.heap.size w w' := by
 go_enter Tryz.func77, Tryz.ntmps77
 go_wp2_with fail
 refine wp_loop_rounds 1 ?_
 rw [rounds_succ]
 go_wp2_with fail
 go_ret
 exact ⟨rfl, below_alloc _ _⟩
set_option maxHeartbeats 2000000 in
theorem c43_in (l : List Nm) (b1 o1 c1 : Nat) (x : Nm) (w : World) (hr1 : w.rangeAt b1 o1 (flatN l)) (hc : l.length ≤ maxLen) (hb1 : b1 < w.heap.size) :
  Calls Tryz.prog 77 #[.slice (some ⟨b1, o1, none⟩) l.length c1, .agg #[.int .i64 x.1, .int .i64 x.2]] w fun e w' => e = .returned (.bool (hasN l x)) ∧ Below w.heap.size w w' := by
 unfold maxLen at hc
 have HR1 : Hid (w.rangeAt b1 o1 (flatN l)) := hr1
 have hB0 : ∀ o : Obj, Hid (Below w.heap.size w (w.alloc o)) := fun o => below_alloc w o
 have hP := Pair.new w 60 x.1 x.2
 clear hr1
 go_enter Tryz.func77, Tryz.ntmps77
 go_wp2_with fail
 go_loopw [5] (fun i wr => ∃ k : Nat, k ≤ l.length ∧ i = .int .i64 k ∧ Hid (hasN (l.take k) x = false) ∧ Hid (Pair wr w.heap.size 60 x.1 x.2) ∧ Below w.heap.size w wr) (fun i _ => l.length - (intOf i).toNat)
 case atStart => exact ⟨0, by omega, rfl, rfl, hP, (hB0 _).out⟩
 case round =>
  obtain ⟨k, hk, rfl, HU, HP, hbr⟩ := hrel
  by_cases hlt : k < l.length
  ·have hlt' : (k : Int) < (l.length : Int) := by omega
   have hk0 : (0 : Int) ≤ (k : Int) := by omega
   obtain ⟨p0, p1⟩ := name_cells (range_below HR1.out hb1 hbr) k hlt
   have q0 := HP.out.cell0
   have q1 := HP.out.cell1
   have hN := eql23b l[k].1 l[k].2 x.1 x.2
   have e1 : (l[k].1 == x.1 && l[k].2 == x.2) = eqN l[k] x := rfl
   rw [e1] at hN
   clear e1
   have hPd : ∀ n, Hid (Pair (wr.drewN n) w.heap.size 60 x.1 x.2) := fun n => HP.out
   cases hq : eqN l[k] x
   ·have hU : Hid (hasN (l.take (k + 1)) x = false) := by
     show hasN (l.take (k + 1)) x = false
     unfold hasN at *
     rw [List.take_succ_eq_append_getElem hlt, List.any_append, HU.out]; simp [hq]
    rw [hq] at hN
    clear hq
    go_wp2_with fail
    go_quiet (fail)
    go_wp2_with fail
    go_roundw
    case rel => exact ⟨k + 1, by omega, by go_num, hU, hPd _, below_drewN hbr _⟩
    case measure => simp [intOf]; omega
   ·have hF : Hid (hasN l x = true) := by
     show hasN l x = true
     unfold hasN
     rw [List.any_eq_true]
     exact ⟨l[k], List.getElem_mem _, hq⟩
    rw [hq] at hN
    clear hq
    go_wp2_with fail
    go_quiet (fail)
    go_wp2_with fail
    go_ret
    exact ⟨by rw [hF.out]; rfl, below_drewN hbr _⟩
  ·have hF : Hid (hasN l x = false) := by
    have h := HU.out; rw [List.take_of_length_le (by omega)] at h; exact h
   have hlt' : ¬ ((k : Int) < (l.length : Int)) := by omega
   go_wp2_with fail
   go_ret
   exact ⟨by rw [hF.out]; rfl, hbr⟩
theorem c43 (l : List Nm) (v : Value) (x : Nm) (w : World) (h : NamesAt w v l) :
  Calls Tryz.prog 77 #[v, .agg #[.int .i64 x.1, .int .i64 x.2]] w fun e w' => e = .returned (.bool (hasN l x)) ∧ Below w.heap.size w w' := by
 obtain ⟨hc, h⟩ := h
 rcases h with ⟨rfl, ad, rfl⟩ | ⟨b, o, cap, rfl, h3, h4⟩
 ·exact c43_nil ad x.1 x.2 w
 ·exact c43_in l b o cap x w h3 hc h4
def eqNUpto (l m : List Nm) (k : Nat) : Prop := ∀ j, j < k → ∀ (h1 : j < l.length) (h2 : j < m.length), eqN l[j] m[j] = true
def eqNs (l m : List Nm) : Bool := decide (l = m)
theorem eqNs_true {l m : List Nm} (h : l.length = m.length) (hu : eqNUpto l m l.length) : eqNs l m = true := by
 unfold eqNs
 rw [decide_eq_true_eq]
 refine List.ext_getElem h fun j h1 h2 => ?_
 exact (eqN_iff _ _).1 (hu j h1 h1 h2)
theorem eqNs_false {l m : List Nm} (j : Nat) (h1 : j < l.length) (h2 : j < m.length) (h : eqN l[j] m[j] = false) : eqNs l m = false := by
 unfold eqNs
 rw [decide_eq_false_iff_not]
 intro e
 subst e
 have := (eqN_iff l[j] l[j]).2 rfl
 rw [h] at this; cases this
end Go.Proofs.YtaehhophaaipdaaGreatDoor

namespace Go.Proofs.YtaehhophaaipdaaGreatDoor
open Go.RowKit
def addN (acc : List Nm) (x : Nm) : List Nm := if hasN acc x then acc else acc ++ [x]
theorem addN_len (acc : List Nm) (x : Nm) : (addN acc x).length ≤ acc.length + 1 := by unfold addN; split <;> simp
theorem info23 : ∃ i, Tryz.prog.info? 60 = some i ∧ i.zero = some (.agg #[.int .i64 0, .int .i64 0]) ∧ i.size = 2 ∧ i.bytes = 16 := by
 have h : (Tryz.prog.info? 60).map (fun i => (i.zero, i.size, i.bytes)) = some (some (.agg #[.int .i64 0, .int .i64 0]), 2, 16) := by kernel_rfl
 cases hq : Tryz.prog.info? 60 with
 | none => rw [hq] at h; cases h
 | some i =>
  rw [hq] at h
  simp only [Option.map_some, Option.some.injEq, Prod.mk.injEq] at h
  exact ⟨i, rfl, h.1, h.2.1, h.2.2⟩
theorem newsN_new (W : World) (x : Nm) : ∀ j u, (flatN [x])[j]? = some u → (W.alloc (.cells #[.int .i64 x.1, .int .i64 x.2] 60)).cell? ((⟨W.heap.size, 0, none⟩ : Addr).add j) = some u := by
 intro j u hu
 rw [Addr.add_mid]
 exact range_new W (flatN [x]) 60 j u hu
theorem row_one (w : World) (v : Value) (l : List C) (h : TermAt w v l) : RowAt (w.alloc (.cells #[v] 24)) (.slice (some ⟨w.heap.size, 0, none⟩) 1 1) [l] := by
 refine ⟨by simp [maxLen], .inr ⟨w.heap.size, 0, 1, [v], rfl, by simp, by simp [maxLen], by simp, rfl, range_new w [v] 24, ?_⟩⟩
 intro i u x hu hx
 match i, hu, hx with
 | 0, hu, hx => simp at hu hx; subst hu hx; exact h.below (below_alloc _ _)
def refGlobalB (l : List C) : Bool := rightB l && (varsOf l).all (fun x => !decide (x.1 < 0))
set_option maxHeartbeats 1000000 in
theorem c37_no (l : List C) (v : Value) (w : World) (_h : TermAt w v l) (hr : rightB l = false) (H23 : Calls Tryz.prog 35 #[v] w fun e w' => e = .returned (.bool (rightB l)) ∧ Below w.heap.size w w') :
  Calls Tryz.prog 60 #[v] w fun e w' => e = .returned (.bool (refGlobalB l)) ∧ Below w.heap.size w w' := by
 have e1 : refGlobalB l = false := by unfold refGlobalB; rw [hr]; rfl
 rw [e1]
 rw [hr] at H23
 clear e1 hr _h
 go_enter Tryz.func60, Tryz.ntmps60
 go_wp2_with fail
 refine H23.mono ?_
 rintro e w1 ⟨rfl, hb1⟩
 go_wp2_with fail
 go_ret
 exact ⟨rfl, hb1⟩
set_option maxHeartbeats 1000000 in
theorem c37_yes (l : List C) (v : Value) (w : World) (h : TermAt w v l) (hr : rightB l = true) (H23 : Calls Tryz.prog 35 #[v] w fun e w' => e = .returned (.bool (rightB l)) ∧ Below w.heap.size w w') :
  Calls Tryz.prog 60 #[v] w fun e w' => e = .returned (.bool (refGlobalB l)) ∧ Below w.heap.size w w' := by
 have hrl := right_len hr
 have e1 : refGlobalB l = (varsOf l).all (fun x => !decide (x.1 < 0)) := by unfold refGlobalB; rw [hr]; rfl
 rw [e1]
 rw [hr] at H23
 clear e1 hr
 obtain ⟨_, h⟩ := h
 rcases h with ⟨rfl, ad, rfl⟩ | ⟨b, o, cap, rfl, h2, h5, h3, h4⟩
 ·simp at hrl
 have HR : Hid (w.rangeAt b o (flat l)) := h3
 clear h3 h2 h5
 go_enter Tryz.func60, Tryz.ntmps60
 go_wp2_with fail
 refine H23.mono ?_
 rintro e w1 ⟨rfl, hb1⟩
 go_wp2_with fail
 go_loopw [3] (fun i wr => ∃ k : Nat, k ≤ l.length ∧ i = .int .i64 k ∧ Hid ((varsOf (l.take k)).all (fun x => !decide (x.1 < 0)) = true) ∧ Below w.heap.size w wr) (fun i _ => l.length - (intOf i).toNat)
 case atStart => exact ⟨0, Nat.zero_le _, rfl, rfl, hb1⟩
 case round =>
  obtain ⟨k, hk, rfl, hall, hbr⟩ := hrel
  by_cases hlt : k < l.length
  ·have hlt' : (k : Int) < (l.length : Int) := by omega
   obtain ⟨q0, q1, q2, q3, q4⟩ := term_cells (range_below HR.out h4 hbr) k hlt
   cases hk4 : (l[k].k == 4)
   ·have hE : Hid ((varsOf (l.take (k + 1))).all (fun x => !decide (x.1 < 0)) = true) := by
     show (varsOf (l.take (k + 1))).all _ = true
     rw [varsOf_snoc_no l k hlt hk4]; exact hall.out
    go_wp2_with fail
    go_roundw
    case rel => exact ⟨k + 1, by omega, by go_num, hE, hbr⟩
    case measure => simp [intOf]; omega
   ·by_cases hneg : l[k].vn < 0
    ·have hF : Hid ((varsOf l).all (fun x => !decide (x.1 < 0)) = false) := by
      show (varsOf l).all _ = false
      rw [List.all_eq_false]
      refine ⟨(l[k].vn, l[k].vk), ?_, by simp [hneg]⟩
      unfold varsOf
      exact List.mem_map.2 ⟨l[k], List.mem_filter.2 ⟨List.getElem_mem _, hk4⟩, rfl⟩
     go_wp2_with fail
     go_ret
     exact ⟨by rw [hF.out]; rfl, hbr⟩
    ·have hE : Hid ((varsOf (l.take (k + 1))).all (fun x => !decide (x.1 < 0)) = true) := by
      show (varsOf (l.take (k + 1))).all _ = true
      rw [varsOf_snoc_yes l k hlt hk4, List.all_append, hall.out]; simp; omega
     go_wp2_with fail
     go_roundw
     case rel => exact ⟨k + 1, by omega, by go_num, hE, hbr⟩
     case measure => simp [intOf]; omega
  ·have hlt' : ¬ ((k : Int) < (l.length : Int)) := by omega
   have hF : Hid ((varsOf l).all (fun x => !decide (x.1 < 0)) = true) := by
    have h := hall.out; rw [List.take_of_length_le (by omega)] at h; exact h
   go_wp2_with fail
   go_ret
   exact ⟨by rw [hF.out]; rfl, hbr⟩
end Go.Proofs.YtaehhophaaipdaaGreatDoor

namespace Go.Proofs.YtaehhophaaipdaaGreatDoor
open Go.RowKit Go.Shelf
attribute [local go_sem] Oper.semAt_some
def wfN (x : Nm) : Prop := (Lit.int .i64 x.1).wf = true ∧ (Lit.int .i64 x.2).wf = true
def kLit (x : Nm) : Lit := .string (keyBytes [.int .i64 x.1, .int .i64 x.2])
theorem law23 : WideMaps.KeyLaw Tryz.prog 60 := deep_law_laid (by kernel_rfl) (m := 2) (by omega) (of_decide_eq_true (by kernel_rfl)) (by kernel_rfl) (by rw [Tryz.underlying60])
theorem keyed23 : Maps.Keyed Tryz.prog 60 := Maps.Keyed.of_law law23
theorem key23 (x : Nm) (h : wfN x) : keyOf Tryz.prog 60 (.agg #[.int .i64 x.1, .int .i64 x.2]) = some (kLit x) := by
 obtain ⟨h1, h2⟩ := h
 have hk : Tryz.prog.keyType 60 = true := by kernel_rfl
 have hc : Tryz.prog.cellsOf 60 = 2 := by kernel_rfl
 have hc3 : Tryz.prog.cellsOf 3 = 1 := by kernel_rfl
 have hs : ∃ n, Tryz.prog.types.size = n + 1 := ⟨Tryz.prog.types.size - 1, by have : 0 < Tryz.prog.types.size := of_decide_eq_true (by kernel_rfl); omega⟩
 obtain ⟨n, hs⟩ := hs
 have hf : (Value.agg #[.int .i64 x.1, .int .i64 x.2]).formed Tryz.prog 60 = true := by simp [Value.formed, Tryz.underlying60, hc]
 unfold keyOf
 rw [Tryz.underlying60]
 simp only [hk, hf, Bool.and_self, if_true, hs]
 simp [Program.keyLits, Tryz.underlying60, Tryz.underlying3, hc, hc3, Value.cells, h1, h2, kLit]
theorem kLit_inj {x y : Nm} (hx : wfN x) (hy : wfN y) (h : kLit x = kLit y) : x = y := by
 have h1 := key23 x hx
 have h2 := key23 y hy
 rw [← h] at h2
 have h3 := law23.inj h1 h2
 simp at h3
 exact Prod.ext h3.1 h3.2
def setD (l : List Nm) : DataW Unit := Maps.setOf (.agg []) (l.map kLit)
theorem has_setD (l : List Nm) (x : Nm) (hl : ∀ y ∈ l, wfN y) (hx : wfN x) : Maps.has (setD l) (kLit x) = hasN l x := by
 unfold setD
 rw [Maps.has_setOf _ _ _ (fun y hy => by obtain ⟨z, hz, rfl⟩ := List.mem_map.1 hy; exact keyed23.key (key23 z (hl z hz)))]
 rw [Bool.eq_iff_iff, hasN_iff, List.any_eq_true]
 constructor
 ·rintro ⟨y, hy, h⟩
  obtain ⟨z, hz, rfl⟩ := List.mem_map.1 hy
  have := kLit_inj (hl z hz) hx (WideAt.sameKey_eq h)
  subst this; exact hz
 ·intro h
  exact ⟨kLit x, List.mem_map.2 ⟨x, h, rfl⟩, WideAt.sameKey_self (keyed23.key (key23 x hx))⟩
theorem setD_snoc (l : List Nm) (x : Nm) : setD (l ++ [x]) = (setD l).put (kLit x) (.agg []) := by
 unfold setD; rw [List.map_append, List.map_singleton, Maps.setOf_snoc]
end Go.Proofs.YtaehhophaaipdaaGreatDoor
