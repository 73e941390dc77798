/- Contract of TopShares. -/
import Derived.Test.YtopapmnoepnpcaaDoorDB
namespace Go.Proofs.YtopapmnoepnpcaaDoor
open Go.RowKit
attribute [local go_sem ↓] Go.wp_at_zero Go.wp_at_succ
theorem info24 : ∃ i, Tryd.prog.info? 24 = some i ∧ i.zero = some (.agg #[.int .i64 0, .slice none 0 0]) ∧ i.size = 2 ∧ i.bytes = 32 := by
  have h : (Tryd.prog.info? 24).map (fun i => (i.zero, i.size, i.bytes)) = some (some (.agg #[.int .i64 0, .slice none 0 0]), 2, 32) := by kernel_rfl
  cases hq : Tryd.prog.info? 24 with
  | none => rw [hq] at h; cases h
  | some i =>
    rw [hq] at h
    simp only [Option.map_some, Option.some.injEq, Prod.mk.injEq] at h
    exact ⟨i, rfl, h.1, h.2.1, h.2.2⟩
/-- All shares together are one unit. -/
def Sh (w0 w : World) (g n c : Nat) (xs : List El) (l : List Amt) (k : Int) : Prop :=
  Tp w0 w g n c xs l ∧ (∀ x ∈ l, share k x) ∧ ∀ N : Nat, 1048576 ≤ N → valS N l = pw N 0
theorem Sh.below {w0 w w' : World} {g n c : Nat} {xs : List El} {l : List Amt} {k : Int} (h : Sh w0 w g n c xs l k) (hb : Below w.heap.size w w') : Sh w0 w' g n c xs l k := ⟨h.1.below hb, h.2.1, h.2.2⟩
/-- Two amounts are put into blocks of their own. -/
theorem stored2 {w U : World} {p q : Nat} {x y x' y' : Value} (hU : (w.alloc (.cells #[.int .i64 0, .slice none 0 0] 24)).alloc (.cells #[.int .i64 0, .slice none 0 0] 24) = U) (hp : w.heap.size = p) (hq : p + 1 = q) :
    (U.cell? ⟨p, 0, none⟩ = some (.int .i64 0) ∧ U.cell? ⟨p, 1, none⟩ = some (.slice none 0 0) ∧ U.cell? ⟨q, 0, none⟩ = some (.int .i64 0) ∧ U.cell? ⟨q, 1, none⟩ = some (.slice none 0 0)) ∧ (U.frozen? ⟨p, 0, none⟩ = false ∧ U.frozen? ⟨p, 1, none⟩ = false ∧ U.frozen? ⟨q, 0, none⟩ = false ∧ U.frozen? ⟨q, 1, none⟩ = false) ∧
    ∀ V, (((U.setCell ⟨p, 0, none⟩ x).setCell ⟨p, 1, none⟩ y).setCell ⟨q, 0, none⟩ x').setCell ⟨q, 1, none⟩ y' = V → V.heap[p]? = some (.cells #[x, y] 24 (0, 0)) ∧ V.heap[q]? = some (.cells #[x', y'] 24 (0, 0)) ∧ Below w.heap.size w V := by
  have b1 : Below w.heap.size w (w.alloc (.cells #[.int .i64 0, .slice none 0 0] 24)) := (Below.refl _ w).alloc (Nat.le_refl _) _
  have hcp : U.heap[p]? = some (.cells #[.int .i64 0, .slice none 0 0] 24 (0, 0)) := by
    rw [← hU, ← hp, heap_alloc_old _ _ (by simp)]; exact heap_alloc_new w _
  have hcq : U.heap[q]? = some (.cells #[.int .i64 0, .slice none 0 0] 24 (0, 0)) := by
    rw [← hU, ← hq, ← hp]
    have := heap_alloc_new (w.alloc (.cells #[.int .i64 0, .slice none 0 0] 24)) (.cells #[.int .i64 0, .slice none 0 0] 24)
    simpa using this
  have hB : Below w.heap.size w U := by rw [← hU]; exact b1.alloc b1.size _
  have hne : p ≠ q := by omega
  refine ⟨⟨(box2 hcp).1, (box2 hcp).2, (box2 hcq).1, (box2 hcq).2⟩, ⟨frozen_of_row U p 0 _ 24 hcp, frozen_of_row U p 1 _ 24 hcp, frozen_of_row U q 0 _ 24 hcq, frozen_of_row U q 1 _ 24 hcq⟩, fun V hV => ?_⟩
  have e1 := heap_setCell_same U p 0 _ 24 x hcp
  have e2 := heap_setCell_same _ p 1 _ 24 y e1
  have f0 : ((U.setCell ⟨p, 0, none⟩ x).setCell ⟨p, 1, none⟩ y).heap[q]? = some (.cells #[.int .i64 0, .slice none 0 0] 24 (0, 0)) := by
    rw [heap_setCell_other _ ⟨p, 1, none⟩ q _ (Ne.symm hne), heap_setCell_other _ ⟨p, 0, none⟩ q _ (Ne.symm hne)]; exact hcq
  have f1 := heap_setCell_same _ q 0 _ 24 x' f0
  have f2 := heap_setCell_same _ q 1 _ 24 y' f1
  have l1 : w.heap.size ≤ p := by omega
  have l2 : w.heap.size ≤ q := by omega
  rw [← hV]
  refine ⟨?_, f2, (((hB.setCell (p := ⟨p, 0, none⟩) l1 _).setCell (p := ⟨p, 1, none⟩) l1 _).setCell (p := ⟨q, 0, none⟩) l2 _).setCell (p := ⟨q, 1, none⟩) l2 _⟩
  rw [heap_setCell_other _ ⟨q, 1, none⟩ p _ hne, heap_setCell_other _ ⟨q, 0, none⟩ p _ hne]; exact e2
/-- The row that is turned about: not begun, or in a block that is nobody else's. -/
def Tq (w0 w : World) (g : Nat) (xl : List El) (v : Value) (t : Nat) (xs : List El) (l : List Amt) : Prop :=
  (t = 0 ∧ v = .slice none 0 0 ∧ xs = [] ∧ l = []) ∨ ∃ g' c, v = .slice (some ⟨g', 0, none⟩) t c ∧ Tp w0 w g' t c xs l ∧ g' ≠ g ∧ ∀ x ∈ xl, blk x.2.1 ≠ some g'
section
variable {w0 w w' : World} {g t n c : Nat} {xl xs : List El} {v : Value} {l : List Amt}
theorem Tq.below (h : Tq w0 w g xl v t xs l) (hb : Below w.heap.size w w') : Tq w0 w' g xl v t xs l := by
  rcases h with h | ⟨g', c, e, hT, h1, h2⟩
  · exact .inl h
  · exact .inr ⟨g', c, e, hT.below hb, h1, h2⟩
theorem Tq.row (h : Tq w0 w g xl v t xs l) : w.ownsRow w0.heap.size 24 2 v t (flatA xs) := by
  rcases h with ⟨rfl, rfl, rfl, rfl⟩ | ⟨g', c, rfl, hT, h1, h2⟩
  · exact ⟨rfl, .inl ⟨rfl, rfl⟩⟩
  · exact hT.row
theorem Tq.form (h : Tq w0 w g xl v t xs l) : ∃ va vc, v = .slice va t vc := by
  rcases h with ⟨rfl, rfl, _⟩ | ⟨g', c, rfl, _⟩
  · exact ⟨_, _, rfl⟩
  · exact ⟨_, _, rfl⟩
theorem Tq.app (h : Tq w0 w g xl v t xs l) (hg : g < w.heap.size) (hB : Below w0.heap.size w0 w) (hxl : ∀ x ∈ xl, ∀ b, blk x.2.1 = some b → b < w.heap.size) {v' : Value} (x : El) (y : Amt) (hxm : x ∈ xl) (hx : x.1 = y.1) (hs : Sl w x.2.1 x.2.2.1 x.2.2.2 y.2)
    (hr : w'.ownsRow w0.heap.size 24 2 v' (t + 1) (flatA xs ++ flatA [x])) (hgr : w.grownBy w' v.ownBlock) (hor : v'.ownBlock = v.ownBlock ∨ v'.ownBlock = some w.heap.size) :
    Tq w0 w' g xl v' (t + 1) (xs ++ [x]) (l ++ [y]) ∧ v.ownBlock ≠ some g ∧ ∀ z ∈ xl, ∀ b, blk z.2.1 = some b → v.ownBlock ≠ some b := by
  rcases h with ⟨rfl, rfl, rfl, rfl⟩ | ⟨g', c, rfl, hT, h1, h2⟩
  · rcases hr.2 with ⟨_, e⟩ | ⟨g2, cap, cur, e, k1, k2, k3, k4, k5, k6⟩
    · omega
    · subst e
      have hg2 : g2 = w.heap.size := by
        rcases hor with e | e
        · simp [Value.ownBlock] at e
        · simpa [Value.ownBlock] using e
      have kb : ∀ b, b < w.heap.size → w'.heap[b]? = w.heap[b]? := fun b hb => hgr.block b hb (by simp [Value.ownBlock])
      refine ⟨.inr ⟨g2, cap, rfl, ⟨hr, rfl, rfl, fun i i1 i2 => ?_, hB.trans ⟨hgr.os, hgr.tape, hgr.output, hgr.size, fun j hj => kb j (Nat.lt_of_lt_of_le hj hB.size)⟩⟩, by omega, fun z hz e => ?_⟩, by simp [Value.ownBlock], fun z _ b _ => by simp [Value.ownBlock]⟩
      · obtain rfl : i = 0 := by simp at i1; omega
        refine ⟨hx, sl_keeps hs (fun b hb => kb b (hxl x hxm b hb)) hgr.size, fun e => ?_, fun b hb => Nat.lt_of_lt_of_le (hxl x hxm b hb) hgr.size⟩
        have := hxl x hxm g2 e
        omega
      · have := hxl z hz g2 e
        omega
  · obtain ⟨g2, c2, e, hT2, h3⟩ := hT.app x y hx hs (h2 x hxm) (hxl x hxm) hr hgr hor
    have hl := hT.lt
    refine ⟨.inr ⟨g2, c2, e, hT2, ?_, fun z hz e2 => ?_⟩, by simpa [Value.ownBlock] using h1, fun z hz b hb e2 => ?_⟩
    · rcases h3 with e3 | e3
      · omega
      · omega
    · rcases h3 with e3 | e3
      · exact h2 z hz (by rw [e2, e3])
      · have := hxl z hz g2 e2; omega
    · have : g' = b := by simpa [Value.ownBlock] using e2
      exact h2 z hz (by rw [hb, this])
end
theorem run_head36 (a : Option Addr) (n c k : Nat) (hk : k ≤ c) (W : World) : (Instr.slice 36 (.slice a n c) none (some (.int .i64 (k : Int))) none).run Tryd.prog W = .ok (.slice a k c) W := by
  obtain ⟨i0, hi, _⟩ := info24
  have h0 : (0 : Int) ≤ (k : Int) := by omega
  have h1 : (k : Int) ≤ (c : Int) := by omega
  have e : ∀ x : Addr, x.add 0 = x := fun x => by simp [Addr.add]
  cases a <;> simp [Instr.slice, run_underlying Tryd.underlying36, Instr.sliceBounds, run_sliceBound, sizeOf, typeInfo, hi, h0, h1, e]
theorem am_unit (w : World) (a : Option Addr) (c : Nat) : Am w (.agg #[.int .i64 1, .slice a 0 c]) 1 [] := ⟨a, 0, c, rfl, in_nil _ _, by omega, by omega, fun _ => rfl⟩
/-- Both sums in blocks. -/
def Lp (w0 w : World) (g n c : Nat) (xs : List El) (l : List Amt) (k : Int) (ab bb : Nat) (a1 : Option Addr) (c1 : Nat) (a2 : Option Addr) (c2 : Nat) : Prop :=
  Sh w0 w g n c xs l k ∧ w.heap[ab]? = some (.cells #[.int .i64 1, .slice a1 0 c1] 24 (0, 0)) ∧ w.heap[bb]? = some (.cells #[.int .i64 1, .slice a2 0 c2] 24 (0, 0))
theorem Lp.below {w0 w w' : World} {g n c ab bb c1 c2 : Nat} {xs : List El} {l : List Amt} {k : Int} {a1 a2 : Option Addr} (h : Lp w0 w g n c xs l k ab bb a1 c1 a2 c2) (hb : Below w.heap.size w w') : Lp w0 w' g n c xs l k ab bb a1 c1 a2 c2 :=
  ⟨h.1.below hb, (hb.block ab (Array.getElem?_eq_some_iff.1 h.2.1).1).trans h.2.1, (hb.block bb (Array.getElem?_eq_some_iff.1 h.2.2).1).trans h.2.2⟩
abbrev LpS (w0 w : World) (g n c : Nat) (xs : List El) (l : List Amt) (k : Int) (ab bb : Nat) (a1 : Option Addr) (c1 : Nat) (a2 : Option Addr) (c2 : Nat) : Prop :=
  w.cell? ⟨ab, 0, none⟩ = some (.int .i64 1) ∧ w.cell? ⟨ab, 1, none⟩ = some (.slice a1 0 c1) ∧ w.cell? ⟨bb, 0, none⟩ = some (.int .i64 1) ∧ w.cell? ⟨bb, 1, none⟩ = some (.slice a2 0 c2) ∧ Hid (Lp w0 w g n c xs l k ab bb a1 c1 a2 c2)
section
variable {w0 w : World} {g n c ab bb c1 c2 : Nat} {xs : List El} {l : List Amt} {k : Int} {a1 a2 : Option Addr}
theorem lps (h : Hid (Lp w0 w g n c xs l k ab bb a1 c1 a2 c2)) : LpS w0 w g n c xs l k ab bb a1 c1 a2 c2 := ⟨(box2 h.out.2.1).1, (box2 h.out.2.1).2, (box2 h.out.2.2).1, (box2 h.out.2.2).2, h⟩
theorem lps_drew (h : Hid (Lp w0 w g n c xs l k ab bb a1 c1 a2 c2)) : LpS w0 w.drew g n c xs l k ab bb a1 c1 a2 c2 := lps (h.out.below ((Below.refl _ w).drew))
theorem lps_get (h : LpS w0 w g n c xs l k ab bb a1 c1 a2 c2) : Hid (Lp w0 w g n c xs l k ab bb a1 c1 a2 c2) := h.2.2.2.2
end
theorem sum_one {l : List Amt} {code W : Int} {B : List Int} (h : SumIs l code W B) (hv : ∀ N : Nat, 1048576 ≤ N → valS N l = pw N 0) : code = 0 ∧ W = 1 ∧ B = [] := by
  have h1 : rightB 1 [] = true := by decide
  have hN : 1048576 ≤ 1048576 := Nat.le_refl _
  rcases h with ⟨rfl, hr, hs⟩ | ⟨_, _, _, hs⟩
  · have e : val 1048576 W B = val 1048576 1 [] := by
      rw [hs _ hN, hv _ hN]; simp only [val, vl]; omega
    exact ⟨rfl, val_inj _ hN hr h1 e⟩
  · have e1 := hs _ hN
    rw [hv _ hN] at e1
    have := pw_pos 1048576 0
    generalize pw 1048576 0 = q at *
    omega
theorem sum_less {l : List Amt} {code W : Int} {B : List Int} {k : Int} (i : Nat) (h : SumIs (l.take i) code W B) (hs : ∀ x ∈ l, share k x) (hv : ∀ N : Nat, 1048576 ≤ N → valS N l = pw N 0) : code = 0 ∧ rightB W B = true ∧ (i < l.length → cmpA W B 1 [] = -1) := by
  have h1 : rightB 1 [] = true := by decide
  have hN : 1048576 ≤ 1048576 := Nat.le_refl _
  have hle : valS 1048576 (l.take i) ≤ valS 1048576 l := by
    by_cases hi : i < l.length
    · have := valS_take_lt 1048576 l hs i hi; omega
    · rw [List.take_of_length_le (by omega)]; exact Int.le_refl _
  have e0 := hv _ hN
  have p0 := pw_pos 1048576 0
  rcases h with ⟨rfl, hr, hsv⟩ | ⟨_, _, _, hsv⟩
  · refine ⟨rfl, hr, fun hi => ?_⟩
    have e1 := hsv _ hN
    have e2 := (valS_take_lt 1048576 l hs i hi).2
    have e3 : val 1048576 1 [] = pw 1048576 0 := by simp only [val, vl]; omega
    rcases cmpA_val 1048576 hN W 1 B [] hr h1 with ⟨c1, _⟩ | ⟨_, c2, c3⟩ | ⟨_, c2⟩
    · exact c1
    · subst c2; subst c3
      generalize pw 1048576 0 = q at *
      omega
    · generalize pw 1048576 0 = q at *
      omega
  · have e1 := hsv _ hN
    generalize pw 1048576 0 = q at *
    omega
set_option maxRecDepth 100000 in
set_option maxHeartbeats 16000000 in
theorem d5 (a : Option Addr) (n c : Nat) (ps : List Int) (w : World) (h : In w a n ps) : Calls Tryd.prog 5 #[.slice a n c] w fun e w' => e = .returned (.bool true) ∧ Below w.heap.size w w' := by
  have HN : Hid (In w a n ps) := h
  obtain ⟨i0, hi, hz, hsz, hby⟩ := info24
  have HI : Hid (Tryd.prog.info? 24 = some i0 ∧ i0.zero = some (.agg #[.int .i64 0, .slice none 0 0]) ∧ i0.size = 2 ∧ i0.bytes = 32) := ⟨hi, hz, hsz, hby⟩
  clear h hi hz hsz hby
  have H14 : Calls Tryd.prog 14 #[.int .i64 1] w fun e w' => e = .returned (.agg #[.int .i64 1, .slice none 0 0]) ∧ Hid (Below w.heap.size w w') := d14 1 w (by omega) (by omega)
  go_enter Tryd.func5, Tryd.ntmps5
  go_wp2_with fail
  refine H14.mono ?_
  rintro e w1 ⟨rfl, H1⟩
  clear H14
  obtain ⟨W1, hW1⟩ : ∃ W1, w1.alloc (.cells #[.int .i64 1, .slice none 0 0] 24) = W1 := ⟨_, rfl⟩
  obtain ⟨g, hg⟩ : ∃ g, w1.heap.size = g := ⟨_, rfl⟩
  have HS : Hid (Sh w W1 g (0 + 1) 1 [(1, none, 0, 0)] [(1, [])] 0) := by
    rw [← hW1, ← hg]
    refine ⟨⟨⟨rfl, .inr ⟨_, _, _, rfl, H1.out.size, heap_alloc_new w1 _, by omega, by unfold maxLen; omega, rfl, rfl⟩⟩, rfl, rfl, fun i h1 h2 => ?_, H1.out.alloc H1.out.size _⟩, fun x hx => .inl (by simpa using hx), fun N _ => by simp [valS, val, vl]⟩
    obtain rfl : i = 0 := by simp at h1; omega
    exact ⟨rfl, ⟨in_nil _ _, by simp, by simp, fun _ => rfl⟩, by simp, fun b e => by simp at e⟩
  go_wp2_with fail
  clear hW1 hg
  go_loopw [3, 4, 5, 6, 7, 8] (fun sl si _ _ _ _ wr => ∃ (j g c' : Nat) (xs : List El) (l : List Amt), j ≤ n ∧ j ≤ 60 ∧ sl = .slice (some ⟨g, 0, none⟩) (j + 1) c' ∧ si = .int .i64 j ∧ Hid (Sh w wr g (j + 1) c' xs l j)) (fun _ si _ _ _ _ _ => n - (intOf si).toNat)
  case atStart => exact ⟨0, g, 1, _, _, Nat.zero_le _, by omega, rfl, rfl, HS⟩
  case round =>
    clear HS
    obtain ⟨j, g, c', xs, l, hj, hj60, rfl, rfl, HC⟩ := hrel
    by_cases hlt : j < n ∧ j < 60
    · have l1 : (j : Int) < (n : Int) := by omega
      have l2 : (j : Int) < 60 := by omega
      have l0 : (0 : Int) ≤ (j : Int) := by omega
      obtain ⟨b, o, hx, rfl, p0⟩ := (HN.out.below HC.out.1.bel).at hlt.1
      generalize ps[j] = y at *
      obtain ⟨kk, hkk⟩ : ∃ kk : Nat, whF y ((j : Int) + 1) = (kk : Int) := ⟨(whF y ((j : Int) + 1)).toNat, by have := whF_bd y ((j : Int) + 1) (by omega); omega⟩
      have hkb : kk < j + 1 := by have := whF_bd y ((j : Int) + 1) (by omega); omega
      have H15 : Calls Tryd.prog 15 #[.int .i64 y, .int .i64 ((j : Int) + 1)] wr fun e w' => e = .returned (.int .i64 (kk : Int)) ∧ w' = wr := by
        rw [← hkk]; exact d15 y _ wr (by omega) (by omega)
      clear hkk
      have hkx : kk < xs.length := by rw [HC.out.1.len]; exact hkb
      have hkl : kk < l.length := by rw [HC.out.1.len']; exact hkb
      obtain ⟨q0, q1⟩ := HC.out.1.cells hkx
      obtain ⟨e0, e1, e2, e3⟩ := HC.out.1.el kk hkx hkl
      have HSh : Hid (share j l[kk]) := HC.out.2.1 _ (List.getElem_mem hkl)
      have H6 : Calls Tryd.prog 6 #[.agg #[.int .i64 xs[kk].1, .slice xs[kk].2.1 xs[kk].2.2.1 xs[kk].2.2.2]] wr fun e w' => ∃ a1 n1 c1 a2 n2 c2, e = .returned (.tuple #[.agg #[.int .i64 (half l[kk]).1, .slice a1 n1 c1], .agg #[.int .i64 (half l[kk]).1, .slice a2 n2 c2], .int .i64 0]) ∧ Hid (Sh w w' g (j + 1) c' xs l j ∧ Sl w' a1 n1 c1 (half l[kk]).2 ∧ Sl w' a2 n2 c2 (half l[kk]).2 ∧ (blk a1 ≠ some g ∧ blk a2 ≠ some g) ∧ (∀ b, blk a1 = some b → b < w'.heap.size) ∧ (∀ b, blk a2 = some b → b < w'.heap.size)) := by
        refine (d6s _ l[kk] j wr ⟨_, _, _, by rw [e0], e1⟩ (by omega) HSh.out).mono ?_
        rintro e w' ⟨a1, n1, c1, a2, n2, c2, rfl, s1, s2, b1, f1, f2, f3⟩
        exact ⟨a1, n1, c1, a2, n2, c2, rfl, HC.out.below b1, s1, s2, f1 g HC.out.1.lt, f2, f3⟩
      have HH : Hid (share ((j : Int) + 1) (half l[kk]) ∧ ∀ N : Nat, 1048576 ≤ N → val N (half l[kk]).1 (half l[kk]).2 + val N (half l[kk]).1 (half l[kk]).2 = val N l[kk].1 l[kk].2) := by
        obtain ⟨s1, s2⟩ := share_half (by omega) HSh.out
        exact ⟨s1, fun N hN => s2 N hN (by omega)⟩
      have hkI : (kk : Int) < (j : Int) + 1 := by omega
      have hk0 : (0 : Int) ≤ (kk : Int) := by omega
      generalize hxk : xs[kk] = xk at *
      obtain ⟨z1, z2, z3, z4⟩ := xk
      simp only at *
      clear e0 e1 e2 e3
      have HL : Hid (∀ N : Nat, val N l[kk].1 l[kk].2 = val N l[kk].1 l[kk].2) := fun _ => rfl
      generalize half l[kk] = hf at *
      obtain ⟨Y1, Y2⟩ := hf
      simp only at H6 HH
      go_wp2_with fail
      refine H15.mono ?_
      rintro e w' ⟨rfl, hw⟩
      obtain rfl := hw.symm
      clear H15
      go_wp2_with fail
      refine H6.mono ?_
      rintro e w2 ⟨a1, n1, c1, a2, n2, c2, rfl, H2⟩
      clear H6 q0 q1 p0 HL HC
      obtain ⟨U, hU⟩ : ∃ U, (w2.alloc (.cells #[.int .i64 0, .slice none 0 0] 24)).alloc (.cells #[.int .i64 0, .slice none 0 0] 24) = U := ⟨_, rfl⟩
      obtain ⟨p, hp⟩ : ∃ p, w2.heap.size = p := ⟨_, rfl⟩
      obtain ⟨q, hq⟩ : ∃ q, p + 1 = q := ⟨_, rfl⟩
      obtain ⟨⟨c00, c01, c10, c11⟩, ⟨f00, f01, f10, f11⟩, hVV⟩ := stored2 (x := .int .i64 Y1) (y := .slice a1 n1 c1) (x' := .int .i64 Y1) (y' := .slice a2 n2 c2) hU hp hq
      obtain ⟨V, hV⟩ : ∃ V, (((U.setCell ⟨p, 0, none⟩ (.int .i64 Y1)).setCell ⟨p, 1, none⟩ (.slice a1 n1 c1)).setCell ⟨q, 0, none⟩ (.int .i64 Y1)).setCell ⟨q, 1, none⟩ (.slice a2 n2 c2) = V := ⟨_, rfl⟩
      obtain ⟨v1, v2, v3⟩ := hVV V hV
      have HV : Hid (Sh w V g (j + 1) c' xs l j ∧ Sl V a1 n1 c1 Y2 ∧ Sl V a2 n2 c2 Y2 ∧ (blk a1 ≠ some g ∧ blk a2 ≠ some g) ∧ (∀ b, blk a1 = some b → b < V.heap.size) ∧ (∀ b, blk a2 = some b → b < V.heap.size) ∧ q ≠ g ∧ V.heap[q]? = some (.cells #[.int .i64 Y1, .slice a2 n2 c2] 24 (0, 0))) := by
        obtain ⟨t1, t2, t3, t4, t5, t6⟩ := H2.out
        have := t1.1.lt
        exact ⟨t1.below v3, t2.below v3, t3.below v3, t4, fun b hb => Nat.lt_of_lt_of_le (t5 b hb) v3.size, fun b hb => Nat.lt_of_lt_of_le (t6 b hb) v3.size, by omega, v2⟩
      obtain ⟨m0, m1⟩ := box2 v1
      obtain ⟨q0, q1⟩ := HV.out.1.1.cells hkx
      rw [hxk] at q0 q1
      simp only at q0 q1
      obtain ⟨cur, hcur, _⟩ := HV.out.1.1.blk (.inr trivial)
      have g0 := frozen_of_row V g (kk * 2) _ 24 hcur
      have g1 := frozen_of_row V g (kk * 2 + 1) _ 24 hcur
      obtain ⟨X, hX⟩ : ∃ X, (V.setCell ⟨g, kk * 2, none⟩ (.int .i64 Y1)).setCell ⟨g, kk * 2 + 1, none⟩ (.slice a1 n1 c1) = X := ⟨_, rfl⟩
      have HX : Hid (Tp w X g (j + 1) c' (xs.set kk (Y1, a1, n1, c1)) (l.set kk (Y1, Y2)) ∧ X.heap[q]? = some (.cells #[.int .i64 Y1, .slice a2 n2 c2] 24 (0, 0)) ∧ Sl X a2 n2 c2 Y2 ∧ blk a2 ≠ some g ∧ (∀ b, blk a2 = some b → b < X.heap.size)) := by
        obtain ⟨t1, t2, t3, t4, t5, t6, t7, t8⟩ := HV.out
        have := t1.1.put hkb (Y1, a1, n1, c1) (Y1, Y2) rfl t2 t4.1 t5
        rw [← hX]
        refine ⟨this, ?_, sl_set (sl_set t3 _ _ t4.2) _ _ t4.2, t4.2, fun b hb => by simpa using t6 b hb⟩
        rw [heap_setCell_other _ ⟨g, kk * 2 + 1, none⟩ q _ t7, heap_setCell_other _ ⟨g, kk * 2, none⟩ q _ t7]; exact t8
      obtain ⟨x0, x1⟩ := box2 HX.out.2.1
      obtain ⟨Z, hZ⟩ : ∃ Z, X.alloc (.cells #[.int .i64 Y1, .slice a2 n2 c2] 24) = Z := ⟨_, rfl⟩
      have HZ : Hid (Tp w Z g (j + 1) c' (xs.set kk (Y1, a1, n1, c1)) (l.set kk (Y1, Y2)) ∧ Sl Z a2 n2 c2 Y2 ∧ blk a2 ≠ some g ∧ (∀ b, blk a2 = some b → b < Z.heap.size) ∧ ∀ jj u, (flatA [(Y1, a2, n2, c2)])[jj]? = some u → Z.cell? ((⟨X.heap.size, 0, none⟩ : Addr).add jj) = some u) := by
        obtain ⟨t1, t2, t3, t4, t5⟩ := HX.out
        have hb : Below X.heap.size X Z := by rw [← hZ]; exact (Below.refl _ X).alloc (Nat.le_refl _) _
        refine ⟨t1.below hb, t3.below hb, t4, fun b h => Nat.lt_of_lt_of_le (t5 b h) hb.size, fun jj u hu => ?_⟩
        have hc : Z.heap[X.heap.size]? = some (.cells #[.int .i64 Y1, .slice a2 n2 c2] 24 (0, 0)) := by rw [← hZ]; exact heap_alloc_new X _
        rw [Addr.add_mid, Nat.zero_add, cell_of_row Z X.heap.size jj _ 24 (0, 0) hc]
        simpa [flatA] using hu
      clear v1 v2 hVV hcur H2
      go_wp2_with (at_builtin; refine wpList_append_own_at _ rfl _ _ 36 rfl w.heap.size 24 i0 _ 2 32 Tryd.underlying36 HI.out.1 HI.out.2.1 HI.out.2.2.1 HI.out.2.2.2 rfl (by omega) _ (j + 1) _ rfl HZ.out.1.row _ 1 1 (flatA [(Y1, a2, n2, c2)]) rfl rfl HZ.out.2.2.2.2 (flatA_one _) (by unfold maxLen; omega) (by omega) HZ.out.1.bel.size ?_)
      intro v' w5 r1 r2 _ r3
      obtain ⟨g', c2', rfl, hT, _⟩ := HZ.out.1.app (Y1, a2, n2, c2) (Y1, Y2) rfl HZ.out.2.1 HZ.out.2.2.1 HZ.out.2.2.2.1 r1 r2 r3
      have H5 : Hid (Sh w w5 g' (j + 1 + 1) c2' (xs.set kk (Y1, a1, n1, c1) ++ [(Y1, a2, n2, c2)]) (l.set kk (Y1, Y2) ++ [(Y1, Y2)]) ((j + 1 : Nat) : Int)) := by
        obtain ⟨s1, s2⟩ := HH.out
        obtain ⟨t1, t2, t3⟩ := HV.out.1
        refine ⟨hT, fun x hx => ?_, fun N hN => ?_⟩
        · rcases List.mem_append.1 hx with hx | hx
          · rcases List.mem_or_eq_of_mem_set hx with hx | rfl
            · exact share_mono (t2 x hx)
            · exact s1
          · obtain rfl : x = (Y1, Y2) := by simpa using hx
            exact s1
        · have e1 := valS_set N l kk (Y1, Y2) hkl
          have e2 := s2 N hN
          have e3 := t3 N hN
          rw [valS_append]
          simp only [valS] at *
          omega
      clear r1 r2 r3 hT HZ HX hZ hX hV hU x0 x1
      go_wp2_with fail
      go_roundw
      case rel => exact ⟨j + 1, g', c2', _, _, by omega, by omega, by go_num, by go_num, H5⟩
      case measure => simp [intOf]; omega
    · have hnot : j < n → ¬ j < 60 := fun h1 h2 => hlt ⟨h1, h2⟩
      clear hlt
      by_cases hjn : j < n
      all_goals (first
        | (have hknI : (j : Int) < (n : Int) := by omega
           have hk5 : ¬ (j : Int) < 60 := by omega
           clear hnot)
        | (have hknI : ¬ (j : Int) < (n : Int) := by omega
           clear hnot))
      all_goals (
        go_wp2_with fail
        clear hknI
        have HQ0 : Hid (Sh w wr g (j + 1) c' xs l j ∧ Tq w wr g xs (.slice none 0 0) 0 [] (l.reverse.take 0)) := ⟨HC.out, .inl ⟨rfl, rfl, rfl, rfl⟩⟩
        go_loopw [9, 10] (fun sv si wr => ∃ (r t : Nat) (ys : List El) (va : Option Addr) (vc : Nat), r + t = j + 1 ∧ sv = .slice va t vc ∧ si = .int .i64 ((r : Int) - 1) ∧ Hid (Sh w wr g (j + 1) c' xs l j ∧ Tq w wr g xs (.slice va t vc) t ys (l.reverse.take t))) (fun _ si _ => (intOf si + 1).toNat)
        case atStart => exact ⟨j + 1, 0, [], none, 0, by omega, rfl, by go_num, HQ0⟩
        case round =>
          clear HQ0 HC
          obtain ⟨r, t, ys, va, vc, hrt, rfl, rfl, HQ⟩ := hrel
          cases r with
          | succ r =>
            have er : ((r + 1 : Nat) : Int) - 1 = (r : Int) := by omega
            rw [er]
            have hrI : (r : Int) < (j : Int) + 1 := by omega
            have hr0 : (0 : Int) ≤ (r : Int) := by omega
            have hrx : r < xs.length := by rw [HQ.out.1.1.len]; omega
            have hrl : r < l.length := by rw [HQ.out.1.1.len']; omega
            obtain ⟨q0, q1⟩ := HQ.out.1.1.cells hrx
            have HE : Hid (xs[r].1 = l[r].1 ∧ Sl wr xs[r].2.1 xs[r].2.2.1 xs[r].2.2.2 l[r].2 ∧ xs[r] ∈ xs ∧ l.reverse.take (t + 1) = l.reverse.take t ++ [l[r]]) := by
              obtain ⟨e0, e1, _, _⟩ := HQ.out.1.1.el r hrx hrl
              have hl := HQ.out.1.1.len'
              have ht : t < l.reverse.length := by simp; omega
              refine ⟨e0, e1, List.getElem_mem hrx, ?_⟩
              rw [← List.take_append_getElem ht]
              congr 2
              rw [List.getElem_reverse]
              congr 1
              omega
            generalize l[r] = y at *
            generalize xs[r] = x at *
            obtain ⟨z1, z2, z3, z4⟩ := x
            simp only at q0 q1
            obtain ⟨Z, hZ⟩ : ∃ Z, wr.alloc (.cells #[.int .i64 z1, .slice z2 z3 z4] 24) = Z := ⟨_, rfl⟩
            have HZ : Hid (Sh w Z g (j + 1) c' xs l j ∧ Tq w Z g xs (.slice va t vc) t ys (l.reverse.take t) ∧ Sl Z z2 z3 z4 y.2 ∧ ∀ jj u, (flatA [(z1, z2, z3, z4)])[jj]? = some u → Z.cell? ((⟨wr.heap.size, 0, none⟩ : Addr).add jj) = some u) := by
              have hb : Below wr.heap.size wr Z := by rw [← hZ]; exact (Below.refl _ wr).alloc (Nat.le_refl _) _
              refine ⟨HQ.out.1.below hb, HQ.out.2.below hb, HE.out.2.1.below hb, fun jj u hu => ?_⟩
              have hc : Z.heap[wr.heap.size]? = some (.cells #[.int .i64 z1, .slice z2 z3 z4] 24 (0, 0)) := by rw [← hZ]; exact heap_alloc_new wr _
              rw [Addr.add_mid, Nat.zero_add, cell_of_row Z wr.heap.size jj _ 24 (0, 0) hc]
              simpa [flatA] using hu
            go_wp2_with (at_builtin; refine wpList_append_own_at _ rfl _ _ 36 rfl w.heap.size 24 i0 _ 2 32 Tryd.underlying36 HI.out.1 HI.out.2.1 HI.out.2.2.1 HI.out.2.2.2 rfl (by omega) _ t _ rfl HZ.out.2.1.row _ 1 1 (flatA [(z1, z2, z3, z4)]) rfl rfl HZ.out.2.2.2 (flatA_one _) (by unfold maxLen; omega) (by omega) HZ.out.1.1.bel.size ?_)
            intro v' w5 r1 r2 _ r3
            have hA : Sh w w5 g (j + 1) c' xs l j ∧ Tq w w5 g xs v' (t + 1) (ys ++ [(z1, z2, z3, z4)]) (l.reverse.take (t + 1)) := by
              obtain ⟨t1, t2, t3, t4⟩ := HZ.out
              obtain ⟨e0, e1, e2, e3⟩ := HE.out
              have hxl : ∀ x ∈ xs, ∀ b, blk x.2.1 = some b → b < Z.heap.size := fun x hx b hb => by
                obtain ⟨i, hi, rfl⟩ := List.mem_iff_getElem.1 hx
                exact (t1.1.el i hi (by rw [t1.1.len', ← t1.1.len]; exact hi)).2.2.2 b hb
              obtain ⟨k1, k2, k3⟩ := t2.app t1.1.lt t1.1.bel hxl (z1, z2, z3, z4) y e2 e0 t3 r1 r2 r3
              have hB : Below w.heap.size w w5 := by
                rcases k1 with ⟨k, _⟩ | ⟨_, _, _, hT, _⟩
                · omega
                · exact hT.bel
              refine ⟨⟨t1.1.keeps (r2.block g t1.1.lt (Ne.symm k2)) (fun i i1 i2 => ?_) r2.size hB, t1.2.1, t1.2.2⟩, by rw [e3]; exact k1⟩
              obtain ⟨_, s1, _, s3⟩ := t1.1.el i i1 i2
              exact sl_keeps s1 (fun b hb => r2.block b (s3 b hb) (Ne.symm (k3 _ (List.getElem_mem i1) b hb))) r2.size
            obtain ⟨va2, vc2, rfl⟩ := hA.2.form
            have H5 : Hid (Sh w w5 g (j + 1) c' xs l j ∧ Tq w w5 g xs (.slice va2 (t + 1) vc2) (t + 1) (ys ++ [(z1, z2, z3, z4)]) (l.reverse.take (t + 1))) := hA
            clear hA r1 r2 r3 HZ hZ q0 q1 HE
            go_wp2_with fail
            go_roundw
            case rel => exact ⟨r, t + 1, _, va2, vc2, by omega, by go_num, by go_num, H5⟩
            case measure => simp [intOf]
          | zero =>
            obtain rfl : t = j + 1 := by omega
            have HT : Hid (Sh w wr g (j + 1) c' xs l j ∧ Tq w wr g xs (.slice va (j + 1) vc) (j + 1) ys l.reverse) := by
              have := HQ.out
              rw [List.take_of_length_le (by have := this.1.1.len'; simp; omega)] at this
              exact this
            obtain ⟨mm, hmm⟩ : ∃ mm : Int, ((0 : Nat) : Int) - 1 = mm := ⟨_, rfl⟩
            rw [hmm]
            have hmneg : ¬ (0 : Int) ≤ mm := by omega
            clear hmm HQ hrt
            have H10 : Calls Tryd.prog 10 #[.slice (some ⟨g, 0, none⟩) (j + 1) c'] wr fun e w' => ∃ a1 c1, e = .returned (.tuple #[.agg #[.int .i64 1, .slice a1 0 c1], .int .i64 0]) ∧ Hid (Sh w w' g (j + 1) c' xs l j ∧ Tq w w' g xs (.slice va (j + 1) vc) (j + 1) ys l.reverse) := by
              obtain ⟨t1, t2⟩ := HT.out
              have hl := t1.1.len'
              have hA := t1.1.amr (j + 1) (Nat.le_refl _)
              rw [List.take_of_length_le (by omega)] at hA
              refine (d10 _ (j + 1) c' l wr hA (by omega) (fun x hx => share_right (by omega) (t1.2.1 x hx))).mono ?_
              rintro e w' ⟨code, W, a1, n1, c1, B, rfl, s1, s2, s3⟩
              obtain ⟨rfl, rfl, rfl⟩ := sum_one s3 t1.2.2
              have h0 : n1 = 0 := by have := s1.i.len; simpa using this.symm
              subst h0
              exact ⟨a1, c1, rfl, t1.below s2, t2.below s2⟩
            go_wp2_with fail
            refine H10.mono ?_
            rintro e w2 ⟨a1, c1, rfl, H2⟩
            clear H10 HT
            obtain ⟨U, hU⟩ : ∃ U, w2.alloc (.cells #[.int .i64 0, .slice none 0 0] 24) = U := ⟨_, rfl⟩
            obtain ⟨ab, hab⟩ : ∃ ab, w2.heap.size = ab := ⟨_, rfl⟩
            obtain ⟨⟨k0, k1, f0, f1⟩, hbV, hcV⟩ := stored24 (x := .int .i64 1) (y := .slice a1 0 c1) hU hab
            obtain ⟨V, hV⟩ : ∃ V, (U.setCell ⟨ab, 0, none⟩ (.int .i64 1)).setCell ⟨ab, 1, none⟩ (.slice a1 0 c1) = V := ⟨_, rfl⟩
            rw [hV] at hbV hcV
            have H10 : Calls Tryd.prog 10 #[.slice va (j + 1) vc] V fun e w' => ∃ a2 c2, e = .returned (.tuple #[.agg #[.int .i64 1, .slice a2 0 c2], .int .i64 0]) ∧ Hid (Sh w w' g (j + 1) c' xs l j ∧ w'.heap[ab]? = some (.cells #[.int .i64 1, .slice a1 0 c1] 24 (0, 0))) := by
              obtain ⟨t1, t2⟩ := H2.out
              have hl := t1.1.len'
              rcases t2.below hbV with ⟨e, _⟩ | ⟨g', cc, e, hT, _⟩
              · omega
              · simp only [Value.slice.injEq] at e
                obtain ⟨rfl, _, rfl⟩ := e
                have hA := hT.amr (j + 1) (Nat.le_refl _)
                rw [List.take_of_length_le (by simp; omega)] at hA
                refine (d10 _ (j + 1) _ l.reverse V hA (by omega) (fun x hx => share_right (k := j) (by omega) (t1.2.1 x (List.mem_reverse.1 hx)))).mono ?_
                rintro e w' ⟨code, W, a2, n2, c2, B, rfl, s1, s2, s3⟩
                obtain ⟨rfl, rfl, rfl⟩ := sum_one s3 (fun N hN => by rw [valS_reverse]; exact t1.2.2 N hN)
                have h0 : n2 = 0 := by have := s1.i.len; simpa using this.symm
                subst h0
                exact ⟨a2, c2, rfl, (t1.below hbV).below s2, (s2.block ab (Array.getElem?_eq_some_iff.1 hcV).1).trans hcV⟩
            clear hbV hcV H2
            go_wp2_with fail
            refine H10.mono ?_
            rintro e w3 ⟨a2, c2, rfl, H3⟩
            clear H10 hU hab k0 k1 f0 f1 hV
            obtain ⟨U2, hU⟩ : ∃ U, w3.alloc (.cells #[.int .i64 0, .slice none 0 0] 24) = U := ⟨_, rfl⟩
            obtain ⟨bb, hab⟩ : ∃ bb, w3.heap.size = bb := ⟨_, rfl⟩
            obtain ⟨⟨k0, k1, f0, f1⟩, hbV, hcV⟩ := stored24 (x := .int .i64 1) (y := .slice a2 0 c2) hU hab
            obtain ⟨V2, hV⟩ : ∃ V, (U2.setCell ⟨bb, 0, none⟩ (.int .i64 1)).setCell ⟨bb, 1, none⟩ (.slice a2 0 c2) = V := ⟨_, rfl⟩
            rw [hV] at hbV hcV
            have HL : Hid (Lp w V2 g (j + 1) c' xs l j ab bb a1 c1 a2 c2) := by
              obtain ⟨t1, t2⟩ := H3.out
              exact ⟨t1.below hbV, (hbV.block ab (Array.getElem?_eq_some_iff.1 t2).1).trans t2, hcV⟩
            clear hbV hcV H3
            go_wp2_with fail
            clear hU hab k0 k1 f0 f1 hV hmneg
            go_loopw [15, 16, 17] (fun si _ _ wr => ∃ i : Nat, i ≤ j + 1 ∧ si = .int .i64 ((i : Int) + 1) ∧ Hid (Lp w wr g (j + 1) c' xs l j ab bb a1 c1 a2 c2)) (fun si _ _ _ => j + 3 - (intOf si).toNat)
            case atStart => exact ⟨0, by omega, rfl, HL⟩
            case round =>
              clear HL
              obtain ⟨i, hij, rfl, HL⟩ := hrel
              by_cases hlt : i < j + 1
              · have hltI : (i : Int) + 1 ≤ (j : Int) + 1 := by omega
                have hcc : j + 1 ≤ c' := by obtain ⟨_, _, _, h4, _⟩ := HL.out.1.1.blk (.inr trivial); exact h4
                have hsl : ∀ W, (Instr.slice 36 (.slice (some ⟨g, 0, none⟩) (j + 1) c') none (some (.int .i64 ((i : Int) + 1))) none).run Tryd.prog W = .ok (.slice (some ⟨g, 0, none⟩) (i + 1) c') W := fun W => by
                  have := run_head36 (some ⟨g, 0, none⟩) (j + 1) c' (i + 1) (by omega) W
                  simpa using this
                have H10 : Calls Tryd.prog 10 #[.slice (some ⟨g, 0, none⟩) (i + 1) c'] wr fun e w' => ∃ W B sa sn sc, e = .returned (.tuple #[.agg #[.int .i64 W, .slice sa sn sc], .int .i64 0]) ∧ Hid (Lp w w' g (j + 1) c' xs l j ab bb a1 c1 a2 c2 ∧ Sl w' sa sn sc B ∧ rightB W B = true ∧ (i + 1 < j + 1 → cmpA W B 1 [] = -1)) := by
                  obtain ⟨t1, t2, t3⟩ := HL.out
                  have hl := t1.1.len'
                  have hA := t1.1.amr (i + 1) (by omega)
                  refine (d10 _ (i + 1) c' _ wr hA (by omega) (fun x hx => share_right (k := j) (by omega) (t1.2.1 x (List.mem_of_mem_take hx)))).mono ?_
                  rintro e w' ⟨code, W, sa, sn, sc, B, rfl, s1, s2, s3⟩
                  obtain ⟨rfl, h4, h5⟩ := sum_less (i + 1) s3 t1.2.1 t1.2.2
                  rw [hl] at h5
                  exact ⟨W, B, sa, sn, sc, rfl, HL.out.below s2, s1, h4, h5⟩
                go_wp2_with fail
                refine H10.mono ?_
                rintro e w2 ⟨W, B, sa, sn, sc, rfl, H2⟩
                clear H10 HL hsl
                obtain ⟨U3, hU⟩ : ∃ U, w2.alloc (.cells #[.int .i64 0, .slice none 0 0] 24) = U := ⟨_, rfl⟩
                obtain ⟨db, hdb⟩ : ∃ db, w2.heap.size = db := ⟨_, rfl⟩
                obtain ⟨⟨k0, k1, f0, f1⟩, hbV, hcV⟩ := stored24 (x := .int .i64 W) (y := .slice sa sn sc) hU hdb
                obtain ⟨V3, hV⟩ : ∃ V, (U3.setCell ⟨db, 0, none⟩ (.int .i64 W)).setCell ⟨db, 1, none⟩ (.slice sa sn sc) = V := ⟨_, rfl⟩
                rw [hV] at hbV hcV
                have H3 : Hid (Lp w V3 g (j + 1) c' xs l j ab bb a1 c1 a2 c2) := H2.out.1.below hbV
                obtain ⟨m0, m1⟩ := box2 hcV
                obtain ⟨m2, m3⟩ := box2 H3.out.2.1
                by_cases hlt2 : i + 1 < j + 1
                · have hlt2I : (i : Int) + 1 < (j : Int) + 1 := by omega
                  have H12 : Calls Tryd.prog 12 #[.agg #[.int .i64 W, .slice sa sn sc], .agg #[.int .i64 1, .slice a1 0 c1]] V3 fun e w' => e = .returned (.int .i64 (-1)) ∧ Hid (Lp w w' g (j + 1) c' xs l j ab bb a1 c1 a2 c2) := by
                    obtain ⟨_, s1, s2, s3⟩ := H2.out
                    refine (d12 _ _ W 1 B [] V3 ⟨sa, sn, sc, rfl, s1.below hbV⟩ (am_unit _ _ _) s2 (by decide)).mono ?_
                    rintro e w' ⟨rfl, h4⟩
                    rw [s3 hlt2]
                    exact ⟨rfl, H3.out.below h4⟩
                  clear hbV hcV H2
                  go_wp2_with fail
                  refine H12.mono ?_
                  rintro e w5 ⟨rfl, H5⟩
                  clear H12 H3 hU hdb k0 k1 f0 f1 hV m0 m1 m2 m3
                  go_wp2_with fail
                  go_roundw
                  case rel => exact ⟨i + 1, by omega, by go_num, H5⟩
                  case measure => simp [intOf]; omega
                · have hlt2I : ¬ (i : Int) + 1 < (j : Int) + 1 := by omega
                  clear hbV hcV H2
                  go_wp2_with fail
                  go_roundw
                  case rel => exact ⟨i + 1, by omega, by go_num, H3⟩
                  case measure => simp [intOf]; omega
              · have hltI : ¬ (i : Int) + 1 ≤ (j : Int) + 1 := by omega
                have H14 : Hid (∀ V, Hid (Lp w V g (j + 1) c' xs l j ab bb a1 c1 a2 c2) → Calls Tryd.prog 14 #[.int .i64 1] V fun e w' => e = .returned (.agg #[.int .i64 1, .slice none 0 0]) ∧ Hid (Lp w w' g (j + 1) c' xs l j ab bb a1 c1 a2 c2)) := fun V hV => (d14 1 V (by omega) (by omega)).mono fun e w' ⟨h1, h2⟩ => ⟨h1, hV.out.below h2⟩
                have H12 : Hid (∀ V sa sc, Hid (Lp w V g (j + 1) c' xs l j ab bb a1 c1 a2 c2) → Calls Tryd.prog 12 #[.agg #[.int .i64 1, .slice a1 0 c1], .agg #[.int .i64 1, .slice sa 0 sc]] V fun e w' => e = .returned (.int .i64 0) ∧ Hid (Lp w w' g (j + 1) c' xs l j ab bb a1 c1 a2 c2)) := fun V sa sc hV => (d12 _ _ 1 1 [] [] V (am_unit _ _ _) (am_unit _ _ _) (by decide) (by decide)).mono fun e w' ⟨h1, h2⟩ => ⟨by rw [h1]; rfl, hV.out.below h2⟩
                go_wp2_with fail
                go_region_held3 (fun w' => LpS w w' g (j + 1) c' xs l j ab bb a1 c1 a2 c2)
                  (first | assumption | exact lps (by assumption) | exact lps_drew HL)
                  (first
                    | (go_at_call 14; refine (H14.out _ (lps_get (by assumption))).mono ?_; rintro e w6 ⟨rfl, H6⟩)
                    | (go_at_call 12; refine (H12.out _ _ _ (lps_get (by assumption))).mono ?_; rintro e w6 ⟨rfl, H6⟩))
                all_goals (
                  go_wp2_with fail
                  go_ret
                  exact ⟨rfl, H6.out.1.1.bel⟩))
end Go.Proofs.YtopapmnoepnpcaaDoor
