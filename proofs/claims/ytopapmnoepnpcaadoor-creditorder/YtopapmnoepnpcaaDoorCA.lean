/- Numbers that can be read; amounts; contracts of spans, of rising Bits, of zero. -/
import Derived.Test.YtopapmnoepnpcaaDoorProg
import Derived.Test.YtopapmnoepnpcaaDoorJR
import Derived.DeepKeys4
import Derived.WalkKit
import Derived.WalkSpells
import Derived.WalkLawsBesides
import Derived.Deep.QuietTactic
import Derived.BigQuiet
import Derived.Deep.RegionLaw
import Derived.Deep.DrawnRows
import Derived.Deep.AppendLies
import Derived.Deep.MidRow
import Derived.Deep.RegionHeld3
namespace Go.Proofs.YtopapmnoepnpcaaDoor
open Go.RowKit
attribute [local go_sem ↓] Go.wp_at_zero Go.wp_at_succ
def i64s (xs : List Int) : List Value := xs.map (Value.int .i64)
structure In (w : World) (a : Option Addr) (n : Nat) (xs : List Int) : Prop where
  len : xs.length = n
  mem : n = 0 ∨ ∃ b o, a = some ⟨b, o, none⟩ ∧ b < w.heap.size ∧ w.rangeAt b o (i64s xs)
theorem In.below {w w' : World} {a : Option Addr} {n : Nat} {xs : List Int} (h : In w a n xs) (hb : Below w.heap.size w w') : In w' a n xs :=
  ⟨h.len, by
    rcases h.mem with e | ⟨b, o, e, hl, hr⟩
    · exact .inl e
    · exact .inr ⟨b, o, e, Nat.lt_of_lt_of_le hl hb.size, fun j u hu => (hb.cell (p := ⟨b, o + j, none⟩) hl).trans (hr j u hu)⟩⟩
theorem In.at {w : World} {a : Option Addr} {n : Nat} {xs : List Int} (h : In w a n xs) {k : Nat} (hk : k < n) : ∃ b o, ∃ (hx : k < xs.length), a = some ⟨b, o, none⟩ ∧ w.cell? ⟨b, o + k, none⟩ = some (.int .i64 xs[k]) := by
  rcases h.mem with e | ⟨b, o, e, _, hr⟩
  · omega
  · have hx : k < xs.length := by rw [h.len]; exact hk
    exact ⟨b, o, hx, e, hr k _ (by simp [i64s, List.getElem?_eq_getElem hx])⟩
theorem In.reads {w : World} {a : Option Addr} {n : Nat} {xs : List Int} (h : In w a n xs) : Reads w a n (i64s xs) := by
  refine ⟨by simp [i64s, h.len], ?_⟩
  rcases h.mem with e | ⟨b, o, e, _, hr⟩
  · exact .inl e
  · exact .inr ⟨_, e, fun j u hu => by rw [Addr.add_mid]; exact hr j u hu⟩
theorem Row.in {w : World} {B : Nat} {a : Option Addr} {n c : Nat} {xs : List Int} (h : Row w B 3 a n c (i64s xs)) : In w a n xs := by
  refine ⟨by simpa [i64s] using h.len, ?_⟩
  rcases Nat.eq_zero_or_pos n with h0 | h0
  · exact .inl h0
  · rcases h.reads.2 with e | ⟨ad, e, hr⟩
    · omega
    · rcases h.mem with ⟨rfl, _⟩ | ⟨g, cur, rfl, _, hb, _⟩
      · cases e
      · cases e
        exact .inr ⟨g, 0, rfl, (Array.getElem?_eq_some_iff.1 hb).1, fun j u hu => by have := hr j u hu; rwa [Addr.add_mid] at this⟩
theorem below_dN {B : Nat} {w0 w : World} (h : Below B w0 w) (n : Nat) : Below B w0 (w.drewN n) := ⟨h.os, h.tape, h.output, h.size, fun k hk => h.block k hk⟩
theorem box2 {w : World} {b : Nat} {x y : Value} {t : TypeId} (h : w.heap[b]? = some (.cells #[x, y] t (0, 0))) : w.cell? ⟨b, 0, none⟩ = some x ∧ w.cell? ⟨b, 1, none⟩ = some y :=
  ⟨by rw [cell_of_row w b 0 _ t (0, 0) h]; rfl, by rw [cell_of_row w b 1 _ t (0, 0) h]; rfl⟩
def riseB (p : Int) : List Int → Bool
  | [] => true
  | b :: l => (decide (p + 1 ≤ b) && decide (b ≤ 1048576)) && riseB b l
def rightB (W : Int) (B : List Int) : Bool := (decide (0 ≤ W) && decide (W ≤ 2147483647)) && riseB 0 B
def zeroB (W : Int) (n : Nat) : Bool := decide (W = 0) && decide (n = 0)
def hasB (lo hi n : Int) : Bool := decide (lo ≤ n) && decide (n ≤ hi)
set_option maxRecDepth 100000 in
theorem d39 (lo hi n : Int) (w : World) : Calls Tryd.prog 39 #[.agg #[.int .i64 lo, .int .i64 hi], .int .i64 n] w fun e w' => e = .returned (.bool (hasB lo hi n)) ∧ Below w.heap.size w w' := by
  have hb : Below w.heap.size w (w.alloc (.cells #[.int .i64 lo, .int .i64 hi] 59)) := (Below.refl _ w).alloc (Nat.le_refl _) _
  have HB : Hid (Below w.heap.size w (w.alloc (.cells #[.int .i64 lo, .int .i64 hi] 59))) := hb
  clear hb
  by_cases h1 : lo ≤ n
  · by_cases h2 : n ≤ hi
    · have e : hasB lo hi n = true := by simp [hasB, h1, h2]
      rw [e]
      go_enter Tryd.func39, Tryd.ntmps39
      go_wp2_with fail
      go_ret
      exact ⟨rfl, HB.out⟩
    · have e : hasB lo hi n = false := by simp [hasB, h2]
      rw [e]
      go_enter Tryd.func39, Tryd.ntmps39
      go_wp2_with fail
      go_ret
      exact ⟨rfl, HB.out⟩
  · have e : hasB lo hi n = false := by simp [hasB, h1]
    rw [e]
    go_enter Tryd.func39, Tryd.ntmps39
    go_wp2_with fail
    go_ret
    exact ⟨rfl, HB.out⟩
set_option maxRecDepth 100000 in
theorem d34 (w : World) : Calls Tryd.prog 34 #[] w fun e w' => e = .returned (.agg #[.int .i64 0, .int .i64 3]) ∧ Below w.heap.size w w' := by
  go_enter Tryd.func34, Tryd.ntmps34
  go_wp2_with fail
  exact bodyPost_ret (v := .agg #[.int .i64 0, .int .i64 3]) (by simp [results, Tryd.results34, go_sem]) rfl ⟨rfl, (Below.refl _ w).alloc (Nat.le_refl _) _⟩
set_option maxRecDepth 100000 in
theorem d35 (w : World) : Calls Tryd.prog 35 #[] w fun e w' => e = .returned (.agg #[.int .i64 0, .int .i64 2147483647]) ∧ Below w.heap.size w w' := by
  go_enter Tryd.func35, Tryd.ntmps35
  go_wp2_with fail
  exact bodyPost_ret (v := .agg #[.int .i64 0, .int .i64 2147483647]) (by simp [results, Tryd.results35, go_sem]) rfl ⟨rfl, (Below.refl _ w).alloc (Nat.le_refl _) _⟩
set_option maxRecDepth 100000 in
theorem d36 (a b c : Bool) (w : World) : Calls Tryd.prog 36 #[.bool a, .bool b, .bool c] w fun e w' => e = .returned (.bool (bif a then b else c)) ∧ w' = w := by
  cases a
  · go_enter Tryd.func36, Tryd.ntmps36
    go_wp2_with fail
    go_ret
    exact ⟨rfl, rfl⟩
  · go_enter Tryd.func36, Tryd.ntmps36
    go_wp2_with fail
    go_ret
    exact ⟨rfl, rfl⟩
set_option maxRecDepth 100000 in
theorem d41 (W : Int) (a : Option Addr) (n c : Nat) (w : World) : Calls Tryd.prog 41 #[.agg #[.int .i64 W, .slice a n c]] w fun e w' => e = .returned (.bool (zeroB W n)) ∧ Below w.heap.size w w' := by
  have HB : Hid (Below w.heap.size w (w.alloc (.cells #[.int .i64 W, .slice a n c] 24))) := (Below.refl _ w).alloc (Nat.le_refl _) _
  by_cases h1 : W = 0
  · by_cases h2 : n = 0
    · have e : zeroB W n = true := by simp [zeroB, h1, h2]
      rw [e]
      subst h1 h2
      go_enter Tryd.func41, Tryd.ntmps41
      go_wp2_with fail
      go_ret
      exact ⟨rfl, HB.out⟩
    · have e : zeroB W n = false := by simp [zeroB, h2]
      rw [e]
      subst h1
      have h3 : ((n : Int) == 0) = false := by simp; omega
      go_enter Tryd.func41, Tryd.ntmps41
      go_wp2_with fail
      go_ret
      exact ⟨rfl, HB.out⟩
  · have e : zeroB W n = false := by simp [zeroB, h1]
    rw [e]
    go_enter Tryd.func41, Tryd.ntmps41
    go_wp2_with fail
    go_ret
    exact ⟨rfl, HB.out⟩
set_option maxRecDepth 100000 in
theorem d8 (W : Int) (a : Option Addr) (n c : Nat) (w : World) : Calls Tryd.prog 8 #[.agg #[.int .i64 W, .slice a n c]] w fun e w' => e = .returned (.bool (zeroB W n)) ∧ Below w.heap.size w w' := by
  have HB : Hid (Below w.heap.size w (w.alloc (.cells #[.int .i64 W, .slice a n c] 24))) := (Below.refl _ w).alloc (Nat.le_refl _) _
  by_cases h1 : W = 0
  · by_cases h2 : n = 0
    · have e : zeroB W n = true := by simp [zeroB, h1, h2]
      rw [e]
      subst h1 h2
      go_enter Tryd.func8, Tryd.ntmps8
      go_wp2_with fail
      go_ret
      exact ⟨rfl, HB.out⟩
    · have e : zeroB W n = false := by simp [zeroB, h2]
      rw [e]
      subst h1
      have h3 : ((n : Int) == 0) = false := by simp; omega
      go_enter Tryd.func8, Tryd.ntmps8
      go_wp2_with fail
      go_ret
      exact ⟨rfl, HB.out⟩
  · have e : zeroB W n = false := by simp [zeroB, h1]
    rw [e]
    go_enter Tryd.func8, Tryd.ntmps8
    go_wp2_with fail
    go_ret
    exact ⟨rfl, HB.out⟩
set_option maxRecDepth 100000 in
set_option maxHeartbeats 2000000 in
theorem d58 (a : Option Addr) (n c : Nat) (B : List Int) (w : World) (h : In w a n B) (hn : n ≤ 9223372036854775807) : Calls Tryd.prog 58 #[.slice a n c] w fun e w' => e = .returned (.bool (riseB 0 B)) ∧ Below w.heap.size w w' := by
  have HN : Hid (In w a n B) := h
  clear h
  go_enter Tryd.func58, Tryd.ntmps58
  go_wp2_with fail
  go_loopw [3, 5, 8] (fun l _ i wr => ∃ (k : Nat) (p : Int), k ≤ n ∧ l = .int .i64 p ∧ i = .int .i64 k ∧ 0 ≤ p ∧ p ≤ 1048576 ∧ Hid (riseB 0 B = riseB p (B.drop k)) ∧ Hid (Below w.heap.size w wr)) (fun _ _ i _ => n - (intOf i).toNat)
  case atStart => exact ⟨0, 0, Nat.zero_le _, rfl, rfl, by omega, by omega, rfl, Below.refl _ _⟩
  case round =>
    obtain ⟨k, p, hk, rfl, rfl, hp0, hp1, HP, HB⟩ := hrel
    by_cases hlt : k < n
    · have hltI : (k : Int) < (n : Int) := by omega
      have hk0 : (0 : Int) ≤ (k : Int) := by omega
      obtain ⟨b, o, hx, rfl, p0⟩ := (HN.out.below HB.out).at hlt
      have HD : Hid (riseB p (B.drop k) = (hasB (p + 1) 1048576 B[k] && riseB B[k] (B.drop (k + 1)))) := by
        show riseB p (B.drop k) = _
        rw [List.drop_eq_getElem_cons hx]; rfl
      generalize B[k] = y at *
      have H39 : Calls Tryd.prog 39 #[.agg #[.int .i64 (p + 1), .int .i64 1048576], .int .i64 y] wr fun e w' => e = .returned (.bool (hasB (p + 1) 1048576 y)) ∧ Hid (Below w.heap.size w w') := by
        refine (d39 (p + 1) 1048576 y wr).mono ?_
        rintro e w' ⟨rfl, h1⟩
        exact ⟨rfl, HB.out.trans (h1.mono HB.out.size)⟩
      cases hh : hasB (p + 1) 1048576 y
      · rw [hh] at H39
        have HE : Hid (riseB 0 B = false) := by
          show riseB 0 B = false
          rw [HP.out, HD.out, hh]; rfl
        go_wp2_with fail
        refine H39.mono ?_
        rintro e w1 ⟨rfl, H1⟩
        clear H39
        go_wp2_with fail
        go_ret
        exact ⟨by rw [HE.out]; rfl, H1.out⟩
      · rw [hh] at H39
        have hy : p + 1 ≤ y ∧ y ≤ 1048576 := by simpa [hasB] using hh
        have HE : Hid (riseB 0 B = riseB y (B.drop (k + 1))) := by
          show riseB 0 B = _
          rw [HP.out, HD.out, hh]; rfl
        go_wp2_with fail
        refine H39.mono ?_
        rintro e w1 ⟨rfl, H1⟩
        clear H39
        go_wp2_with fail
        go_roundw
        case rel => exact ⟨k + 1, y, by omega, rfl, by go_num, by omega, by omega, HE, H1⟩
        case measure => simp [intOf]; omega
    · have HE : Hid (riseB 0 B = true) := by
        show riseB 0 B = true
        rw [HP.out, List.drop_of_length_le (by rw [HN.out.len]; omega)]; rfl
      go_wp2_with fail
      go_ret
      exact ⟨by rw [HE.out]; rfl, HB.out⟩
/-- A block with two cells, behind a world. -/
structure Bk (w0 w : World) (b : Nat) (x y : Value) (t : TypeId) : Prop where
  box : w.heap[b]? = some (.cells #[x, y] t (0, 0))
  bel : Below w0.heap.size w0 w
theorem Bk.below {w0 w w' : World} {b : Nat} {x y : Value} {t : TypeId} (h : Bk w0 w b x y t) (hb : Below w.heap.size w w') : Bk w0 w' b x y t :=
  ⟨(hb.block b (Array.getElem?_eq_some_iff.1 h.box).1).trans h.box, h.bel.trans (hb.mono h.bel.size)⟩
theorem bk_new (w : World) (x y : Value) (t : TypeId) : Bk w (w.alloc (.cells #[x, y] t)) w.heap.size x y t := ⟨heap_alloc_new w _, (Below.refl _ w).alloc (Nat.le_refl _) _⟩
abbrev BkS (w0 w : World) (b : Nat) (x y : Value) (t : TypeId) : Prop := w.cell? ⟨b, 0, none⟩ = some x ∧ w.cell? ⟨b, 1, none⟩ = some y ∧ Hid (Bk w0 w b x y t)
theorem bks {w0 w : World} {b : Nat} {x y : Value} {t : TypeId} (h : Hid (Bk w0 w b x y t)) : BkS w0 w b x y t := ⟨(box2 h.out.box).1, (box2 h.out.box).2, h⟩
theorem bks_drew {w0 w : World} {b : Nat} {x y : Value} {t : TypeId} (h : Hid (Bk w0 w b x y t)) : BkS w0 w.drew b x y t := bks (h.out.below ((Below.refl _ w).drew))
set_option maxRecDepth 100000 in
set_option maxHeartbeats 4000000 in
theorem d37 (w : World) : Calls Tryd.prog 37 #[.agg #[.int .i64 0, .int .i64 0]] w fun e w' => e = .returned (.bool true) ∧ Below w.heap.size w w' := by
  obtain ⟨W, hW⟩ : ∃ W, w.alloc (.cells #[.int .i64 0, .int .i64 0] 45) = W := ⟨_, rfl⟩
  obtain ⟨b, hb⟩ : ∃ b, w.heap.size = b := ⟨_, rfl⟩
  have H0 : Hid (Bk w W b (.int .i64 0) (.int .i64 0) 45) := by rw [← hW, ← hb]; exact bk_new w _ _ _
  have H34 : Hid (∀ U, Hid (Bk w U b (.int .i64 0) (.int .i64 0) 45) → Calls Tryd.prog 34 #[] U fun e w' => e = .returned (.agg #[.int .i64 0, .int .i64 3]) ∧ Hid (Bk w w' b (.int .i64 0) (.int .i64 0) 45)) := fun U hU => (d34 U).mono fun e w' ⟨h1, h2⟩ => ⟨h1, hU.out.below h2⟩
  have H35 : Hid (∀ U, Hid (Bk w U b (.int .i64 0) (.int .i64 0) 45) → Calls Tryd.prog 35 #[] U fun e w' => e = .returned (.agg #[.int .i64 0, .int .i64 2147483647]) ∧ Hid (Bk w w' b (.int .i64 0) (.int .i64 0) 45)) := fun U hU => (d35 U).mono fun e w' ⟨h1, h2⟩ => ⟨h1, hU.out.below h2⟩
  have H39 : Hid (∀ U hi, 0 ≤ hi → Hid (Bk w U b (.int .i64 0) (.int .i64 0) 45) → Calls Tryd.prog 39 #[.agg #[.int .i64 0, .int .i64 hi], .int .i64 0] U fun e w' => e = .returned (.bool true) ∧ Hid (Bk w w' b (.int .i64 0) (.int .i64 0) 45)) := fun U hi h0 hU => (d39 0 hi 0 U).mono fun e w' ⟨h1, h2⟩ => ⟨by rw [h1]; simp [hasB, h0], hU.out.below h2⟩
  go_enter Tryd.func37, Tryd.ntmps37
  go_wp2_with fail
  clear hW hb
  go_region_held3 (fun w' => BkS w w' b (.int .i64 0) (.int .i64 0) 45)
    (first | assumption | exact bks (by assumption) | exact bks_drew H0)
    (first
      | (go_at_call 34; refine (H34.out _ (show BkS _ _ _ _ _ _ from by assumption).2.2).mono ?_; rintro e w6 ⟨rfl, H6⟩)
      | (go_at_call 35; refine (H35.out _ (show BkS _ _ _ _ _ _ from by assumption).2.2).mono ?_; rintro e w6 ⟨rfl, H6⟩)
      | (go_at_call 39; refine (H39.out _ _ (by decide) (show BkS _ _ _ _ _ _ from by assumption).2.2).mono ?_; rintro e w6 ⟨rfl, H6⟩))
  all_goals (
    go_wp2_with fail
    go_ret
    exact ⟨rfl, H6.out.bel⟩)
/-- A slice of numbers that can be read. -/
structure Sl (w : World) (a : Option Addr) (n c : Nat) (B : List Int) : Prop where
  i : In w a n B
  max : n ≤ 9223372036854775807
  cap : n ≤ c
  nil : a = none → n = 0
theorem Sl.below {w w' : World} {a : Option Addr} {n c : Nat} {B : List Int} (h : Sl w a n c B) (hb : Below w.heap.size w w') : Sl w' a n c B := ⟨h.i.below hb, h.max, h.cap, h.nil⟩
/-- An amount whose Bits can be read. -/
structure Am (w : World) (v : Value) (W : Int) (B : List Int) : Prop where
  val : ∃ a n c, v = .agg #[.int .i64 W, .slice a n c] ∧ Sl w a n c B
theorem Am.below {w w' : World} {v : Value} {W : Int} {B : List Int} (h : Am w v W B) (hb : Below w.heap.size w w') : Am w' v W B := by
  obtain ⟨a, n, c, e, h1⟩ := h.val
  exact ⟨a, n, c, e, h1.below hb⟩
def nz (W : Int) (B : List Int) : Bool := rightB W B && !zeroB W B.length
set_option maxRecDepth 100000 in
set_option maxHeartbeats 4000000 in
theorem d40 (W : Int) (a : Option Addr) (n c : Nat) (B : List Int) (w : World) (h : In w a n B) (hn : n ≤ 9223372036854775807) : Calls Tryd.prog 40 #[.agg #[.int .i64 W, .slice a n c]] w fun e w' => e = .returned (.bool (nz W B)) ∧ Below w.heap.size w w' := by
  obtain ⟨U, hU⟩ : ∃ U, w.alloc (.cells #[.int .i64 W, .slice a n c] 24) = U := ⟨_, rfl⟩
  obtain ⟨b, hb⟩ : ∃ b, w.heap.size = b := ⟨_, rfl⟩
  have H0 : Hid (Bk w U b (.int .i64 W) (.slice a n c) 24) := by rw [← hU, ← hb]; exact bk_new w _ _ _
  have H35 : Hid (∀ V, Hid (Bk w V b (.int .i64 W) (.slice a n c) 24) → Calls Tryd.prog 35 #[] V fun e w' => e = .returned (.agg #[.int .i64 0, .int .i64 2147483647]) ∧ Hid (Bk w w' b (.int .i64 W) (.slice a n c) 24)) := fun V hV => (d35 V).mono fun e w' ⟨h1, h2⟩ => ⟨h1, hV.out.below h2⟩
  obtain ⟨r1, hr1⟩ : ∃ r1, hasB 0 2147483647 W = r1 := ⟨_, rfl⟩
  obtain ⟨r2, hr2⟩ : ∃ r2, riseB 0 B = r2 := ⟨_, rfl⟩
  obtain ⟨r3, hr3⟩ : ∃ r3, zeroB W n = r3 := ⟨_, rfl⟩
  have HE : Hid (nz W B = ((r1 && r2) && !r3)) := by
    show nz W B = _
    rw [← hr1, ← hr2, ← hr3, ← h.len]; rfl
  have H39 : Hid (∀ V, Hid (Bk w V b (.int .i64 W) (.slice a n c) 24) → Calls Tryd.prog 39 #[.agg #[.int .i64 0, .int .i64 2147483647], .int .i64 W] V fun e w' => e = .returned (.bool r1) ∧ Hid (Bk w w' b (.int .i64 W) (.slice a n c) 24)) := fun V hV => (d39 0 2147483647 W V).mono fun e w' ⟨h1, h2⟩ => ⟨by rw [h1, hr1], hV.out.below h2⟩
  have H58 : Hid (∀ V, Hid (Bk w V b (.int .i64 W) (.slice a n c) 24) → Calls Tryd.prog 58 #[.slice a n c] V fun e w' => e = .returned (.bool r2) ∧ Hid (Bk w w' b (.int .i64 W) (.slice a n c) 24)) := fun V hV => (d58 a n c B V (h.below hV.out.bel) hn).mono fun e w' ⟨h1, h2⟩ => ⟨by rw [h1, hr2], hV.out.below h2⟩
  have H41 : Hid (∀ V, Hid (Bk w V b (.int .i64 W) (.slice a n c) 24) → Calls Tryd.prog 41 #[.agg #[.int .i64 W, .slice a n c]] V fun e w' => e = .returned (.bool r3) ∧ Hid (Bk w w' b (.int .i64 W) (.slice a n c) 24)) := fun V hV => (d41 W a n c V).mono fun e w' ⟨h1, h2⟩ => ⟨by rw [h1, hr3], hV.out.below h2⟩
  clear h hr1 hr2 hr3
  generalize nz W B = R at *
  cases r1
  all_goals cases r2
  all_goals cases r3
  all_goals (
    obtain rfl := HE.out
    clear HE
    go_enter Tryd.func40, Tryd.ntmps40
    go_wp2_with fail
    clear hU hb
    obtain ⟨q0, q1, HD⟩ := bks_drew H0
    first
    | go_region_with (first
        | (go_at_call 35; refine (H35.out _ (by assumption)).mono ?_; rintro e w6 ⟨rfl, H6⟩; obtain ⟨s0, s1, _⟩ := bks H6)
        | (go_at_call 39; refine (H39.out _ (by assumption)).mono ?_; rintro e w6 ⟨rfl, H6⟩; obtain ⟨s0, s1, _⟩ := bks H6)
        | (go_at_call 58; refine (H58.out _ (by assumption)).mono ?_; rintro e w6 ⟨rfl, H6⟩; obtain ⟨s0, s1, _⟩ := bks H6)
        | (go_at_call 41; refine (H41.out _ (by assumption)).mono ?_; rintro e w6 ⟨rfl, H6⟩; obtain ⟨s0, s1, _⟩ := bks H6))
    | fail
    all_goals (
      go_wp2_with fail
      go_ret
      exact ⟨rfl, H6.out.bel⟩))
end Go.Proofs.YtopapmnoepnpcaaDoor
